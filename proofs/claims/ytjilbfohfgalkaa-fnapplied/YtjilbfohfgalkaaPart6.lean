/- Towards l3Done of the model: more laws of the bundle. -/
import Derived.Test.YtjilbfohfgalkaaPart5
import Derived.Test.YtjilbfohfgalkaaPart4
import Derived.Deep.CutRange
import Derived.Test.YtjilbfohfgalkaaPart0
import Derived.Laws.CopyOwn
import Derived.BigRegion
import Derived.RegionTactic
import Derived.ChangeAlike
import Derived.Test.YtjilbfohfgalkaaPart1
namespace Go.Proofs.Ytjilbfohfgalkaa
open Go.RowKit

abbrev rvD (ep : Int) (x : Value) : Value := .agg #[.int .i64 ep, x]
abbrev rbD (ep : Int) (x : Value) : Obj := .cells #[.int .i64 ep, x] 29
theorem below_none {w W : World} (h : w.grownBy W none) : Below w.heap.size w W := ⟨h.os, h.tape, h.output, h.size, fun k hk => h.block k hk (by simp)⟩
/-- No row came in. -/
abbrev noRow : RowF := fI 0 (.slice none 0 0) []
theorem noRow_on (W : World) : noRow.on W := World.ownsRow_nil W 0 2 1
section
variable {w0 W W' : World} {bs : List (Nat × Obj)} {rs : List RowF} {ex : RowF}
/-- The row at a place comes first. -/
theorem Hex.front {pre post : List RowF} {r : RowF} (H : Hex w0 bs (pre ++ r :: post) ex W) : Hex w0 bs (r :: (pre ++ post)) ex W := by
  have hap := List.pairwise_append.1 H.apart
  have hap2 := List.pairwise_cons.1 hap.2.1
  have hin : ∀ s, s ∈ r :: (pre ++ post) → s ∈ pre ++ r :: post := fun s hs => by
    rcases List.mem_cons.1 hs with rfl | hs
    · exact List.mem_append_right _ (.head _)
    · rcases List.mem_append.1 hs with hs | hs
      · exact List.mem_append_left _ hs
      · exact List.mem_append_right _ (.tail _ hs)
  refine ⟨H.bel, H.exOn, H.low, H.box, H.new, H.nod, fun s hs => H.row s (hin s hs), fun s hs => H.fresh s (hin s hs), List.pairwise_cons.2 ⟨fun s hs k e e' => ?_, List.pairwise_append.2 ⟨hap.1, hap2.2, fun s hs x hx => hap.2.2 s hs x (.tail _ hx)⟩⟩, fun p hp s hs => H.off p hp s (hin s hs)⟩
  rcases List.mem_append.1 hs with hs | hs
  · exact hap.2.2 s hs r (.head _) k e' e
  · exact hap2.1 s hs k e e'
theorem Hex.front2 {x0 x1 r : RowF} (H : Hex w0 bs (x0 :: x1 :: r :: rs) ex W) : Hex w0 bs (r :: x0 :: x1 :: rs) ex W := Hex.front (pre := [x0, x1]) H
/-- New rows of one call. -/
theorem Hex.adds (H : Hex w0 bs rs ex W) (hb : Below W.heap.size W W') : ∀ ns : List RowF, (∀ r, r ∈ ns → r.on W') → (∀ r, r ∈ ns → W.heap.size ≤ r.B) → (ns.Pairwise fun r s => ∀ k, r.v.ownBlock = some k → s.v.ownBlock ≠ some k) → Hex w0 bs (ns ++ rs) ex W'
  | [], _, _, _ => H.since hb
  | r :: ns, h, hB, hp => by
    have hp' := List.pairwise_cons.1 hp
    have H1 := Hex.adds H hb ns (fun s hs => h s (.tail _ hs)) (fun s hs => hB s (.tail _ hs)) hp'.2
    have H2 := H.add hb (h r (.head _)) (hB r (.head _))
    refine ⟨H1.bel, H1.exOn, H1.low, H1.box, H1.new, H1.nod, ?_, ?_, List.pairwise_cons.2 ⟨fun s hs => ?_, H1.apart⟩, ?_⟩
    · intro s hs
      rcases List.mem_cons.1 hs with rfl | hs
      · exact h _ (.head _)
      · exact H1.row s hs
    · intro s hs
      rcases List.mem_cons.1 hs with rfl | hs
      · exact H2.fresh _ (.head _)
      · exact H1.fresh s hs
    · rcases List.mem_append.1 hs with hs | hs
      · exact hp'.1 s hs
      · exact (List.pairwise_cons.1 H2.apart).1 s hs
    · intro p hpm s hs
      rcases List.mem_cons.1 hs with rfl | hs
      · exact H2.off p hpm _ (.head _)
      · exact H1.off p hpm s hs
/-- A call that writes over a row of one's own and makes new ones. -/
theorem Hex.more {r r' : RowF} (H : Hex w0 bs (r :: rs) ex W) (hg : W.grownBy W' r.v.ownBlock) (h : r'.on W') (hv : r'.v = r.v) (hrB : r'.B = r.B) (ns : List RowF) (hn : ∀ s, s ∈ ns → s.on W') (hB : ∀ s, s ∈ ns → W.heap.size ≤ s.B) (hp : ns.Pairwise fun r s => ∀ k, r.v.ownBlock = some k → s.v.ownBlock ≠ some k) : Hex w0 bs (ns ++ r' :: rs) ex W' := by
  have hap := List.pairwise_cons.1 H.apart
  have hlow : ∀ k, r.v.ownBlock = some k → w0.heap.size ≤ k := fun k e => Nat.le_trans (H.fresh r (.head _)) ((H.row r (.head _)).lt k e).1
  have hin : ∀ k, r.v.ownBlock = some k → k < W.heap.size := fun k e => ((H.row r (.head _)).lt k e).2
  have hmem : ∀ s, s ∈ ns ++ r' :: rs → s ∈ ns ∨ s = r' ∨ s ∈ rs := fun s hs => by
    rcases List.mem_append.1 hs with hs | hs
    · exact .inl hs
    · exact .inr (List.mem_cons.1 hs)
  have hbox : ∀ p, p ∈ bs → W'.heap[p.1]? = some p.2 := fun p hp => by
    rw [hg.block p.1 (blkLt (H.box p hp)) (fun e => H.off p hp r (.head _) e.symm)]
    exact H.box p hp
  refine ⟨grown_via H.bel hg (fun k e => .inr (hlow k e)), RowF.kept H.exOn hg (fun k e e' => by have := hlow k e; have := H.low k e'; omega), H.low, hbox, H.new, H.nod, ?_, ?_, ?_, ?_⟩
  · intro s hs
    rcases hmem s hs with hs | rfl | hs
    · exact hn s hs
    · exact h
    · exact RowF.kept (H.row s (.tail _ hs)) hg (fun k e e' => hap.1 s hs k e e')
  · intro s hs
    rcases hmem s hs with hs | rfl | hs
    · exact Nat.le_trans H.bel.size (hB s hs)
    · rw [hrB]
      exact H.fresh r (.head _)
    · exact H.fresh s (.tail _ hs)
  · refine List.pairwise_append.2 ⟨hp, List.pairwise_cons.2 ⟨fun s hs => by rw [hv]; exact hap.1 s hs, hap.2⟩, fun s hs x hx k e e' => ?_⟩
    have h1 := ((hn s hs).lt k e).1
    have h2 := hB s hs
    rcases List.mem_cons.1 hx with rfl | hx
    · rw [hv] at e'
      have := hin k e'
      omega
    · have := ((H.row x (.tail _ hx)).lt k e').2
      omega
  · intro p hp s hs e
    rcases hmem s hs with hs | rfl | hs
    · have h1 := ((hn s hs).lt _ e).1
      have h2 := hB s hs
      have h3 := blkLt (H.box p hp)
      omega
    · rw [hv] at e
      exact H.off p hp r (.head _) e
    · exact H.off p hp s (.tail _ hs) e
end
theorem three_rows {W : World} {A D E : Nat} {y v u : Value} {ss : List (Int × Int)} {ws : List W4} {ks : List (Int × Int)} (h1 : Seats A y ss W) (h2 : Wraps D v ws W) (h3 : Keys E u ks W) :
    (∀ s, s ∈ [fS A y ss, fW D v ws, fK E u ks] → s.on W) ∧ [fS A y ss, fW D v ws, fK E u ks].Pairwise fun r s => ∀ k, r.v.ownBlock = some k → s.v.ownBlock ≠ some k := by
  refine ⟨fun s hs => ?_, List.pairwise_cons.2 ⟨fun s hs => ?_, List.pairwise_cons.2 ⟨fun s hs => ?_, List.pairwise_cons.2 ⟨(fun _ h => (by cases h)), .nil⟩⟩⟩⟩
  · simp only [List.mem_cons, List.not_mem_nil, or_false] at hs
    rcases hs with rfl | rfl | rfl
    · exact h1
    · exact h2
    · exact h3
  · simp only [List.mem_cons, List.not_mem_nil, or_false] at hs
    rcases hs with rfl | rfl
    · exact rows_ne (r := fS A y ss) (s := fW D v ws) h1 h2 (show (90 : TypeId) ≠ 112 by decide)
    · exact rows_ne (r := fS A y ss) (s := fK E u ks) h1 h3 (show (90 : TypeId) ≠ 36 by decide)
  · simp only [List.mem_cons, List.not_mem_nil, or_false] at hs
    subst hs
    exact rows_ne (r := fW D v ws) (s := fK E u ks) h2 h3 (show (112 : TypeId) ≠ 36 by decide)
theorem two_rows {W : World} {A D : Nat} {y v : Value} {ss : List (Int × Int)} {ws : List W4} (h1 : Seats A y ss W) (h2 : Wraps D v ws W) :
    (∀ s, s ∈ [fS A y ss, fW D v ws] → s.on W) ∧ [fS A y ss, fW D v ws].Pairwise fun r s => ∀ k, r.v.ownBlock = some k → s.v.ownBlock ≠ some k := by
  refine ⟨fun s hs => ?_, List.pairwise_cons.2 ⟨fun s hs => ?_, List.pairwise_cons.2 ⟨(fun _ h => (by cases h)), .nil⟩⟩⟩
  · simp only [List.mem_cons, List.not_mem_nil, or_false] at hs
    rcases hs with rfl | rfl
    · exact h1
    · exact h2
  · simp only [List.mem_cons, List.not_mem_nil, or_false] at hs
    subst hs
    exact rows_ne (r := fS A y ss) (s := fW D v ws) h1 h2 (show (90 : TypeId) ≠ 112 by decide)
theorem litWd (X : World) : (X.alloc (.cells #[] 112)).ownsRow X.heap.size 112 4 (.slice (some ⟨X.heap.size, 0, none⟩) 0 0) 0 [] := World.ownsRow_lit X #[] 0 (Nat.le_refl _) (by decide) rfl
theorem litKd (X : World) : (X.alloc (.cells #[] 36)).ownsRow X.heap.size 36 2 (.slice (some ⟨X.heap.size, 0, none⟩) 0 0) 0 [] := World.ownsRow_lit X #[] 0 (Nat.le_refl _) (by decide) rfl
theorem two_set {W : World} {p1 p2 p3 : Addr} {v1 v2 v3 : Value} {R : Nat} (h : W.cell? p1 = some v1 ∧ W.cell? p2 = some v2 ∧ W.cell? p3 = some v3) (h1 : p1.block ≠ R) (h2 : p2.block ≠ R) (h3 : p3.block ≠ R) (a b : Value) :
    ((W.setCell ⟨R, 0, none⟩ a).setCell ⟨R, 1, none⟩ b).cell? p1 = some v1 ∧ ((W.setCell ⟨R, 0, none⟩ a).setCell ⟨R, 1, none⟩ b).cell? p2 = some v2 ∧ ((W.setCell ⟨R, 0, none⟩ a).setCell ⟨R, 1, none⟩ b).cell? p3 = some v3 := by
  have hc : ∀ {p : Addr} {v : Value}, W.cell? p = some v → p.block ≠ R → ((W.setCell ⟨R, 0, none⟩ a).setCell ⟨R, 1, none⟩ b).cell? p = some v := fun {p v} hp hl =>
    (grown_set _ R 1 b).cell ((grown_set W R 0 a).cell hp (fun e => by cases e; exact hl rfl)) (fun e => by cases e; exact hl rfl)
  exact ⟨hc h.1 h1, hc h.2.1 h2, hc h.2.2 h3⟩
theorem drew3 {W : World} {p1 p2 p3 : Addr} {v1 v2 v3 : Value} (h : W.cell? p1 = some v1 ∧ W.cell? p2 = some v2 ∧ W.cell? p3 = some v3) : W.drew.cell? p1 = some v1 ∧ W.drew.cell? p2 = some v2 ∧ W.drew.cell? p3 = some v3 := h
/-- What Done answers: a server, a rekey, keys and a code, all in new memory. -/
def DnOut (w : World) (N : Nat) (ok : Prop) (e : Ending) (w' : World) : Prop :=
  ∃ (ep' : Int) (x' y' : Value) (vs' : List Int) (ss' : List (Int × Int)) (re : Int) (v' : Value) (ws : List W4) (u' : Value) (ks : List (Int × Int)) (code : Int), e = .returned (.tuple #[svv ep' x' y', rvD re v', u', .int .i64 code]) ∧ vs'.length ≤ 15 ∧ Ints w.heap.size x' vs' w' ∧ Seats w.heap.size y' ss' w' ∧ ss'.length ≤ N ∧ Wraps w.heap.size v' ws w' ∧ ws.length ≤ 8 ∧ Keys w.heap.size u' ks w' ∧ ks.length ≤ 4 ∧ Below w.heap.size w w' ∧ (ok → serverB ep' vs' ss' = true)
end Go.Proofs.Ytjilbfohfgalkaa
/- What the drawn laws of servers draw: an op. -/
namespace Go.Proofs.Ytjilbfohfgalkaa
open Go.RowKit

set_option maxRecDepth 100000 in
set_option maxHeartbeats 2000000 in
theorem drawOp_any (B R : Nat) (W : World) (h : Q.Rd B R W) :
    Calls Try.prog 43 #[.pointer (some ⟨R, 0, none⟩)] W fun e W' => ∃ k m : Int, e = .returned (kv k m) ∧ Q.Rd B R W' ∧ W.grownBy W' (some R) := by
  have H1 := hidS ((RdX.start h).alloc (opb 0 0))
  clear h
  go_enter Try.func43, Try.ntmps43
  go_wp2_with fail
  generalize W.alloc (opb 0 0) = w1 at *
  refine (Q.below_any B R 6 _ H1.out.rd (by omega) (by omega)).mono ?_
  rintro e w2 ⟨n, hn0, hn1, rfl, hR2, hg2⟩
  have H2 := hidS (H1.out.read hR2 hg2)
  clear H1 hR2 hg2
  obtain ⟨⟨c0, c1⟩, f0, f1⟩ := box2K H2.out.b0
  by_cases h4 : n = 4
  · have h4' : (n == 4) = true := by simpa using h4
    have HF := hidS (H2.out.map (fun _ H => (H.s200 (.int .i64 3)).s201 (.int .i64 0)))
    clear h4 H2
    go_wp2
    have HF' := HF.out
    generalize (w2.setCell ⟨W.heap.size, 0, none⟩ (.int .i64 3)).setCell ⟨W.heap.size, 1, none⟩ (.int .i64 0) = WF at HF' ⊢
    obtain ⟨⟨z0, z1⟩, _, _⟩ := box2K HF'.b0
    exact bodyPost_ret (v := kv 3 0) (by simp [results, Try.results43, go_sem, z0, z1]) rfl ⟨3, 0, rfl, HF'.rd, HF'.grown⟩
  · have h4' : (n == 4) = false := by simpa using h4
    clear h4
    by_cases h23 : n = 2 ∨ n = 3
    · have h2' : (n == 2) = true ∨ ((n == 2) = false ∧ (n == 3) = true) := by
        rcases h23 with e | e
        · exact .inl (by simpa using e)
        · exact .inr ⟨by rw [e]; decide, by simpa using e⟩
      clear h23
      rcases h2' with h2' | ⟨h2', h3'⟩
      all_goals
        go_wp2_with fail
        refine (Q.below_any B R 6 _ H2.out.rd (by omega) (by omega)).mono ?_
        rintro e w3 ⟨m, hm0, hm1, rfl, hR3, hg3⟩
        have H3 := hidS (H2.out.read hR3 hg3)
        clear H2 hR3 hg3 c0 c1 f0 f1
        obtain ⟨⟨c0, c1⟩, f0, f1⟩ := box2K H3.out.b0
        have HF := hidS (H3.out.map (fun _ H => (H.s200 (.int .i64 2)).s201 (.int .i64 (1 + m))))
        clear H3
        go_wp2
        have HF' := HF.out
        generalize (w3.setCell ⟨W.heap.size, 0, none⟩ (.int .i64 2)).setCell ⟨W.heap.size, 1, none⟩ (.int .i64 (1 + m)) = WF at HF' ⊢
        obtain ⟨⟨z0, z1⟩, _, _⟩ := box2K HF'.b0
        exact bodyPost_ret (v := kv 2 (1 + m)) (by simp [results, Try.results43, go_sem, z0, z1]) rfl ⟨2, 1 + m, rfl, HF'.rd, HF'.grown⟩
    · have h2' : (n == 2) = false := by simp; omega
      have h3' : (n == 3) = false := by simp; omega
      clear h23
      go_wp2_with fail
      refine (Q.below_any B R 6 _ H2.out.rd (by omega) (by omega)).mono ?_
      rintro e w3 ⟨m, hm0, hm1, rfl, hR3, hg3⟩
      have H3 := hidS ((H2.out.read hR3 hg3).alloc (opb 1 (1 + m)))
      clear H2 hR3 hg3 c0 c1 f0 f1
      go_wp2_with fail
      generalize hw4 : w3.alloc (opb 1 (1 + m)) = w4 at *
      have HP := hidS (show w3.heap.size < w4.heap.size by rw [← hw4]; simp)
      clear hw4
      refine (Q.once_any B R 12 _ H3.out.rd (by omega) (by omega)).mono ?_
      rintro e w5 ⟨t, rfl, hR5, hg5⟩
      have H5 := hidS (H3.out.read hR5 hg5)
      clear H3 hR5 hg5 HP
      obtain ⟨⟨c0, c1⟩, f0, f1⟩ := box2K H5.out.b0
      obtain ⟨⟨d0, d1⟩, g0, g1⟩ := box2K H5.out.b1
      cases t with
      | false =>
        have HF := hidS (H5.out.map (fun _ H => (H.s210 (.int .i64 1)).s211 (.int .i64 (1 + m))))
        clear H5
        go_wp2
        have HF' := HF.out
        generalize (w5.setCell ⟨W.heap.size, 0, none⟩ (.int .i64 1)).setCell ⟨W.heap.size, 1, none⟩ (.int .i64 (1 + m)) = WF at HF' ⊢
        obtain ⟨⟨z0, z1⟩, _, _⟩ := box2K HF'.b1
        exact bodyPost_ret (v := kv 1 (1 + m)) (by simp [results, Try.results43, go_sem, z0, z1]) rfl ⟨1, 1 + m, rfl, HF'.rd, HF'.grown⟩
      | true =>
        go_wp2_with fail
        refine (Q.off_any B R 1 20 _ H5.out.rd (by omega) (by omega) (by omega)).mono ?_
        rintro e w6 ⟨o, _, rfl, hR6, hg6⟩
        have H6 := hidS (H5.out.read hR6 hg6)
        clear H5 hR6 hg6 c0 c1 f0 f1 d0 d1 g0 g1
        obtain ⟨⟨c0, c1⟩, f0, f1⟩ := box2K H6.out.b0
        obtain ⟨⟨d0, d1⟩, g0, g1⟩ := box2K H6.out.b1
        have hne : w3.heap.size ≠ W.heap.size := H6.out.at fun _ H => (List.pairwise_cons.1 H.nod).1 _ (.head _)
        have HF := hidS (H6.out.map (fun _ H => ((H.s201 (.int .i64 o)).s210 (.int .i64 1)).s211 (.int .i64 o)))
        clear H6
        go_wp2
        have HF' := HF.out
        generalize ((w6.setCell ⟨w3.heap.size, 1, none⟩ (.int .i64 o)).setCell ⟨W.heap.size, 0, none⟩ (.int .i64 1)).setCell ⟨W.heap.size, 1, none⟩ (.int .i64 o) = WF at HF' ⊢
        obtain ⟨⟨z0, z1⟩, _, _⟩ := box2K HF'.b1
        exact bodyPost_ret (v := kv 1 o) (by simp [results, Try.results43, go_sem, z0, z1]) rfl ⟨1, o, rfl, HF'.rd, HF'.grown⟩
end Go.Proofs.Ytjilbfohfgalkaa
/- What an op leaves of a right server is right: as facts on lists. -/
namespace Go.Proofs.Ytjilbfohfgalkaa
open Go.RowKit

theorem paths8 : ∀ j : Nat, j < 8 → (idx (path (8 + (j : Int)))).Nodup ∧ (∀ i ∈ idx (path (8 + (j : Int))), i < 15) ∧ (8 + (j : Int)) ∈ path (8 + (j : Int)) := by
  intro j hj
  match j, hj with
  | 0, _ => decide
  | 1, _ => decide
  | 2, _ => decide
  | 3, _ => decide
  | 4, _ => decide
  | 5, _ => decide
  | 6, _ => decide
  | 7, _ => decide
theorem leaf_nat {l : Int} (h : 8 ≤ l ∧ l ≤ 15) : ∃ j : Nat, j < 8 ∧ l = 8 + (j : Int) := ⟨(l - 8).toNat, by omega, by omega⟩
theorem serverB_parts {ep : Int} {vs : List Int} {ss : List (Int × Int)} : serverB ep vs ss = true ↔ (0 ≤ ep ∧ ep ≤ 1000000000) ∧ versB vs = true ∧ seatsB ss = true := by
  simp only [serverB, Bool.and_eq_true, decide_eq_true_eq]
theorem roomB_parts {ep : Int} {vs : List Int} (h : roomB ep vs = true) (hl : vs.length = 15) : (∀ i, i < 15 → vAt vs i ≠ 1000000000) ∧ ep < 1000000000 := by
  simp only [roomB, Bool.and_eq_true, List.all_eq_true, List.mem_range, decide_eq_true_eq] at h
  exact ⟨fun i hi => h.1 i (by omega), h.2⟩
theorem epoch_next {ep : Int} (h : 0 ≤ ep ∧ ep ≤ 1000000000) (h2 : ep < 1000000000) : 0 ≤ wrap64 (ep + 1) ∧ wrap64 (ep + 1) ≤ 1000000000 := by
  unfold wrap64; omega
theorem seat_found {ss : List (Int × Int)} {m : Int} {s : Int × Int} (hs : s ∈ ss) (e : s.1 = m) : ∃ t ∈ ss, t.1 = m ∧ leafV ss m = t.2 := by
  unfold leafV seatOf
  cases h : ss.find? (fun s => decide (s.1 = m)) with
  | none =>
    have := List.find?_eq_none.1 h s hs
    simp [e] at this
  | some t =>
    refine ⟨t, List.mem_of_find?_eq_some h, ?_, by simp⟩
    have := List.find?_some h
    simpa using this
theorem leaf_of {ss : List (Int × Int)} {m : Int} (h : 0 < leafV ss m) : ∃ t ∈ ss, t.1 = m ∧ leafV ss m = t.2 := by
  unfold leafV seatOf at h ⊢
  cases hf : ss.find? (fun s => decide (s.1 = m)) with
  | none => rw [hf] at h; simp at h
  | some t =>
    refine ⟨t, List.mem_of_find?_eq_some hf, ?_, by simp⟩
    have := List.find?_some hf
    simpa using this

theorem join_right {ep m : Int} {vs : List Int} {ss : List (Int × Int)} {j : Nat} (h : serverB ep vs ss = true) (hr : roomB ep vs = true) (hm : 1 ≤ m ∧ m ≤ 20) (hno : ¬ 0 < leafV ss m) (hj : j < 8) (hs : someB ss (8 + (j : Int)) = false) :
    serverB (wrap64 (ep + 1)) (raiseL vs (idx (path (8 + (j : Int))))) (seatIn m (8 + (j : Int)) ss) = true := by
  obtain ⟨h1, h2, h3⟩ := serverB_parts.1 h
  obtain ⟨p1, p2, p3⟩ := paths8 j hj
  have hl := (versB_iff.1 h2).1
  obtain ⟨r1, r2⟩ := roomB_parts hr hl
  have hR := seatsB_right.1 h3
  refine serverB_parts.2 ⟨epoch_next h1 r2, versB_raise h2 r1 p1 p2, seatsB_right.2 (hR.more hm (by omega) (fun s hs' e => ?_) (fun s hs' e => ?_))⟩
  · obtain ⟨t, ht, _, e2⟩ := seat_found hs' e
    have := (hR.rng t ht).2
    omega
  · have : someB ss (8 + (j : Int)) = true := by
      obtain ⟨i, hi, rfl⟩ := List.getElem_of_mem hs'
      simp only [someB, List.any_eq_true, List.mem_range, decide_eq_true_eq]
      refine ⟨i, hi, ?_⟩
      rw [kAt_get ss i hi, e]
      exact p3
    rw [hs] at this
    cases this
theorem leave_right {ep m : Int} {vs : List Int} {ss : List (Int × Int)} (h : serverB ep vs ss = true) (hr : roomB ep vs = true) (hlf : 0 < leafV ss m) :
    serverB (wrap64 (ep + 1)) (raiseL vs (idx (path (leafV ss m)))) (ss.filter fun s => decide (s.1 ≠ m)) = true := by
  obtain ⟨h1, h2, h3⟩ := serverB_parts.1 h
  have hR := seatsB_right.1 h3
  obtain ⟨t, ht, _, e2⟩ := leaf_of hlf
  obtain ⟨j, hj, e3⟩ := leaf_nat (hR.rng t ht).2
  rw [e2, e3]
  obtain ⟨p1, p2, p3⟩ := paths8 j hj
  have hl := (versB_iff.1 h2).1
  obtain ⟨r1, r2⟩ := roomB_parts hr hl
  exact serverB_parts.2 ⟨epoch_next h1 r2, versB_raise h2 r1 p1 p2, seatsB_right.2 (hR.less _)⟩
theorem refresh_right {ep : Int} {vs : List Int} {ss : List (Int × Int)} (h : serverB ep vs ss = true) (hr : roomB ep vs = true) :
    serverB (wrap64 (ep + 1)) (vs.set 0 (wrap64 (vAt vs 0 + 1))) ss = true := by
  obtain ⟨h1, h2, h3⟩ := serverB_parts.1 h
  have hl := (versB_iff.1 h2).1
  obtain ⟨r1, r2⟩ := roomB_parts hr hl
  have := versB_raise (ns := [0]) h2 r1 (by simp) (by simp)
  exact serverB_parts.2 ⟨epoch_next h1 r2, this, h3⟩
theorem form_join {k m : Int} (h : formB k m = true) (hk : k = 1) : 1 ≤ m ∧ m ≤ 20 := by
  simpa [formB, hk] using h
end Go.Proofs.Ytjilbfohfgalkaa
/- l3Done of the model. -/
namespace Go.Proofs.Ytjilbfohfgalkaa
open Go.RowKit

set_option maxRecDepth 100000 in
set_option maxHeartbeats 8000000 in
theorem l3Done_any {B C : Nat} {x y : Value} {vs : List Int} {ss : List (Int × Int)} {w : World} (ep k m : Int) (hl : vs.length = 15) (hx : Ints B x vs w) (hy : Seats C y ss w) (hs : ss.length ≤ 50) :
    Calls Try.prog 66 #[svv ep x y, kv k m] w fun e w' => DnOut w (ss.length + 1) (serverB ep vs ss = true) e w' := by
  obtain ⟨ax, cx, hvx, _, _⟩ := hx.row
  obtain ⟨ay, cy, hvy, _, _⟩ := hy.row
  subst hvx hvy
  rw [hl] at hx ⊢
  have HX : Hid (∀ W, w.grownBy W none → Ints B (.slice ax 15 cx) vs W) := fun W hg => hx.since (below_none hg)
  have HY : Hid (∀ W, w.grownBy W none → Seats C (.slice ay ss.length cy) ss W) := fun W hg => hy.since (below_none hg)
  have H1 := ((((Hex.start w (ex := noRow) (noRow_on w)).alloc (svb ep (.slice ax 15 cx) (.slice ay ss.length cy))).alloc (opb k m)).alloc (svb 0 (.slice none 0 0) (.slice none 0 0))).alloc (rbD 0 (.slice none 0 0))
  simp only [World.size_alloc] at H1
  have HH1 := hidS H1
  obtain ⟨⟨p0, p1, p2⟩, _, _, _⟩ := box3 H1.b3
  have hs1 : w.heap.size ≤ ((((w.alloc (svb ep (.slice ax 15 cx) (.slice ay ss.length cy))).alloc (opb k m)).alloc (svb 0 (.slice none 0 0) (.slice none 0 0))).alloc (rbD 0 (.slice none 0 0))).heap.size := H1.bel.size
  clear hx hy H1
  generalize hn : ss.length = n at *
  have HN := hidS hn
  clear hn
  go_enter Try.func66, Try.ntmps66
  go_wp2_with fail
  generalize (((w.alloc (svb ep (.slice ax 15 cx) (.slice ay n cy))).alloc (opb k m)).alloc (svb 0 (.slice none 0 0) (.slice none 0 0))).alloc (rbD 0 (.slice none 0 0)) = w1 at *
  refine (l3Copy_any ep (HX.out _ HH1.out.bel) (HY.out _ HH1.out.bel) (by omega) (by rw [HN.out]; omega)).mono ?_
  rintro e w2 ⟨x2, y2, rfl, s2, b2⟩
  obtain ⟨a2, c2, hv2, _, _⟩ := s2.1.row
  obtain ⟨e2, d2, hw2, _, _⟩ := s2.2.1.row
  rw [hl] at hv2
  rw [HN.out] at hw2
  subst hv2 hw2
  have HH2 := hidS ((HH1.out.adds b2 [fI w1.heap.size (.slice a2 15 c2) vs, fS w1.heap.size (.slice e2 n d2) ss] (fun r hr => by
      simp only [List.mem_cons, List.not_mem_nil, or_false] at hr
      rcases hr with rfl | rfl
      · exact s2.1
      · exact s2.2.1) (fun r hr => by
      simp only [List.mem_cons, List.not_mem_nil, or_false] at hr
      rcases hr with rfl | rfl <;> exact Nat.le_refl _) (List.pairwise_cons.2 ⟨fun r hr => by
      simp only [List.mem_cons, List.not_mem_nil, or_false] at hr
      subst hr
      exact s2.2.2, List.pairwise_cons.2 ⟨(fun _ h => (by cases h)), .nil⟩⟩)).alloc (svb ep (.slice a2 15 c2) (.slice e2 n d2)))
  simp only [List.cons_append, List.nil_append] at HH2
  clear p0 p1 p2 b2 s2 HH1
  obtain ⟨⟨o0, o1, o2⟩, of0, of1, of2⟩ := box3 HH2.out.b0
  obtain ⟨⟨r0, r1⟩, rf0, rf1⟩ := box2K HH2.out.b1
  obtain ⟨⟨t0, t1, t2⟩, tf0, tf1, tf2⟩ := box3 HH2.out.b2
  obtain ⟨⟨k0, k1⟩, _, _⟩ := box2K HH2.out.b3
  obtain ⟨⟨p0, p1, p2⟩, _, _, _⟩ := box3 HH2.out.b4

  go_wp2_with fail
  generalize w2.alloc (svb ep (.slice a2 15 c2) (.slice e2 n d2)) = w3 at *
  refine (l3Leaf_any ep m (HY.out _ HH2.out.bel)).mono ?_
  rintro e w4 ⟨rfl, b4⟩
  obtain ⟨lf, HLF⟩ : ∃ lf, Hid (leafV ss m = lf) := ⟨_, rfl⟩
  rw [HLF.out]
  have HH4 := hidS (HH2.out.since b4)
  clear b4 HH2
  clear o0 o1 o2 of0 of1 of2 r0 r1 rf0 rf1 t0 t1 t2 tf0 tf1 tf2 k0 k1 p0 p1 p2

  obtain ⟨⟨o0, o1, o2⟩, of0, of1, of2⟩ := box3 HH4.out.b0
  obtain ⟨⟨r0, r1⟩, rf0, rf1⟩ := box2K HH4.out.b1
  obtain ⟨⟨t0, t1, t2⟩, tf0, tf1, tf2⟩ := box3 HH4.out.b2
  obtain ⟨⟨k0, k1⟩, _, _⟩ := box2K HH4.out.b3
  obtain ⟨⟨p0, p1, p2⟩, _, _, _⟩ := box3 HH4.out.b4

  go_wp2_with fail
  refine (l3Form_eq k m _).mono ?_
  rintro e w5 ⟨rfl, b5⟩
  obtain ⟨fb, HFB⟩ : ∃ fb, Hid (formB k m = fb) := ⟨_, rfl⟩
  rw [HFB.out]
  have HH5 := hidS (HH4.out.since b5)
  clear b5 HH4
  clear o0 o1 o2 of0 of1 of2 r0 r1 rf0 rf1 t0 t1 t2 tf0 tf1 tf2 k0 k1 p0 p1 p2

  obtain ⟨⟨o0, o1, o2⟩, of0, of1, of2⟩ := box3 HH5.out.b0
  obtain ⟨⟨r0, r1⟩, rf0, rf1⟩ := box2K HH5.out.b1
  obtain ⟨⟨t0, t1, t2⟩, tf0, tf1, tf2⟩ := box3 HH5.out.b2
  obtain ⟨⟨k0, k1⟩, _, _⟩ := box2K HH5.out.b3
  obtain ⟨⟨p0, p1, p2⟩, _, _, _⟩ := box3 HH5.out.b4

  cases fb with
  | false =>
    have HE := hidS (((((HH5.out.s320 (.int .i64 ep)).s321 (.slice a2 15 c2)).s322 (.slice e2 n d2)).s210 (.int .i64 0)).s211 (.slice none 0 0))
    clear HH5
    go_wp2
    have HE' := HE.out
    generalize ((((w5.setCell ⟨w.heap.size + 1 + 1, 0, none⟩ (.int .i64 ep)).setCell ⟨w.heap.size + 1 + 1, 1, none⟩ (.slice a2 15 c2)).setCell ⟨w.heap.size + 1 + 1, 2, none⟩ (.slice e2 n d2)).setCell ⟨w.heap.size + 1 + 1 + 1, 0, none⟩ (.int .i64 0)).setCell ⟨w.heap.size + 1 + 1 + 1, 1, none⟩ (.slice none 0 0) = WF at HE' ⊢
    obtain ⟨⟨z0, z1, z2⟩, _, _, _⟩ := box3 HE'.b2
    obtain ⟨⟨z3, z4⟩, _, _⟩ := box2K HE'.b1
    have kI : Ints w1.heap.size (.slice a2 15 c2) vs WF := HE'.r0
    have kS : Seats w1.heap.size (.slice e2 n d2) ss WF := HE'.r1
    exact bodyPost_ret (v := .tuple #[svv ep (.slice a2 15 c2) (.slice e2 n d2), rvD 0 (.slice none 0 0), (.slice none 0 0), .int .i64 2]) (by simp [results, Try.results66, go_sem, z0, z1, z2, z3, z4]) rfl ⟨ep, _, _, vs, ss, 0, _, [], _, [], 2, rfl, by omega, kI.mono hs1, kS.mono hs1, by rw [HN.out]; omega, World.ownsRow_nil _ _ _ _, by simp, World.ownsRow_nil _ _ _ _, by simp, below_none HE'.bel, fun h => h⟩
  | true =>
    by_cases hk1 : k = 1
    · have hk1' : (k == 1) = true := by simpa using hk1
      have hk2' : (k == 2) = false := by rw [hk1]; decide
      have HM := hidS (form_join HFB.out hk1)
      clear hk1
      by_cases hlf : 0 < lf
      · have HE := hidS (((((HH5.out.s320 (.int .i64 ep)).s321 (.slice a2 15 c2)).s322 (.slice e2 n d2)).s210 (.int .i64 0)).s211 (.slice none 0 0))
        clear HH5
        go_wp2
        have HE' := HE.out
        generalize ((((w5.setCell ⟨w.heap.size + 1 + 1, 0, none⟩ (.int .i64 ep)).setCell ⟨w.heap.size + 1 + 1, 1, none⟩ (.slice a2 15 c2)).setCell ⟨w.heap.size + 1 + 1, 2, none⟩ (.slice e2 n d2)).setCell ⟨w.heap.size + 1 + 1 + 1, 0, none⟩ (.int .i64 0)).setCell ⟨w.heap.size + 1 + 1 + 1, 1, none⟩ (.slice none 0 0) = WF at HE' ⊢
        obtain ⟨⟨z0, z1, z2⟩, _, _, _⟩ := box3 HE'.b2
        obtain ⟨⟨z3, z4⟩, _, _⟩ := box2K HE'.b1
        have kI : Ints w1.heap.size (.slice a2 15 c2) vs WF := HE'.r0
        have kS : Seats w1.heap.size (.slice e2 n d2) ss WF := HE'.r1
        exact bodyPost_ret (v := .tuple #[svv ep (.slice a2 15 c2) (.slice e2 n d2), rvD 0 (.slice none 0 0), (.slice none 0 0), .int .i64 3]) (by simp [results, Try.results66, go_sem, z0, z1, z2, z3, z4]) rfl ⟨ep, _, _, vs, ss, 0, _, [], _, [], 3, rfl, by omega, kI.mono hs1, kS.mono hs1, by rw [HN.out]; omega, World.ownsRow_nil _ _ _ _, by simp, World.ownsRow_nil _ _ _ _, by simp, below_none HE'.bel, fun h => h⟩
      · go_wp2_with fail
        refine (l3Room_eq ep (HX.out _ HH5.out.bel)).mono ?_
        rintro e w6 ⟨rfl, b6⟩
        obtain ⟨rm, HRM⟩ : ∃ rm, Hid (roomB ep vs = rm) := ⟨_, rfl⟩
        rw [HRM.out]
        have HH6 := hidS (HH5.out.since b6)
        clear b6 HH5
        clear o0 o1 o2 of0 of1 of2 r0 r1 rf0 rf1 t0 t1 t2 tf0 tf1 tf2 k0 k1 p0 p1 p2
  
        obtain ⟨⟨o0, o1, o2⟩, of0, of1, of2⟩ := box3 HH6.out.b0
        obtain ⟨⟨r0, r1⟩, rf0, rf1⟩ := box2K HH6.out.b1
        obtain ⟨⟨t0, t1, t2⟩, tf0, tf1, tf2⟩ := box3 HH6.out.b2
        obtain ⟨⟨k0, k1⟩, _, _⟩ := box2K HH6.out.b3
        obtain ⟨⟨p0, p1, p2⟩, _, _, _⟩ := box3 HH6.out.b4
  
        cases rm with
        | false =>
          have HE := hidS (((((HH6.out.s320 (.int .i64 ep)).s321 (.slice a2 15 c2)).s322 (.slice e2 n d2)).s210 (.int .i64 0)).s211 (.slice none 0 0))
          clear HH6
          go_wp2
          have HE' := HE.out
          generalize ((((w6.setCell ⟨w.heap.size + 1 + 1, 0, none⟩ (.int .i64 ep)).setCell ⟨w.heap.size + 1 + 1, 1, none⟩ (.slice a2 15 c2)).setCell ⟨w.heap.size + 1 + 1, 2, none⟩ (.slice e2 n d2)).setCell ⟨w.heap.size + 1 + 1 + 1, 0, none⟩ (.int .i64 0)).setCell ⟨w.heap.size + 1 + 1 + 1, 1, none⟩ (.slice none 0 0) = WF at HE' ⊢
          obtain ⟨⟨z0, z1, z2⟩, _, _, _⟩ := box3 HE'.b2
          obtain ⟨⟨z3, z4⟩, _, _⟩ := box2K HE'.b1
          have kI : Ints w1.heap.size (.slice a2 15 c2) vs WF := HE'.r0
          have kS : Seats w1.heap.size (.slice e2 n d2) ss WF := HE'.r1
          exact bodyPost_ret (v := .tuple #[svv ep (.slice a2 15 c2) (.slice e2 n d2), rvD 0 (.slice none 0 0), (.slice none 0 0), .int .i64 5]) (by simp [results, Try.results66, go_sem, z0, z1, z2, z3, z4]) rfl ⟨ep, _, _, vs, ss, 0, _, [], _, [], 5, rfl, by omega, kI.mono hs1, kS.mono hs1, by rw [HN.out]; omega, World.ownsRow_nil _ _ _ _, by simp, World.ownsRow_nil _ _ _ _, by simp, below_none HE'.bel, fun h => h⟩
        | true =>
          have HH7 := hidS ((HH6.out.add (one_below w6 (.cells #[] 112)) (r := fW w6.heap.size (.slice (some ⟨w6.heap.size, 0, none⟩) 0 0) []) (litWd w6) (Nat.le_refl _)).add (one_below _ (.cells #[] 36)) (r := fK (w6.alloc (.cells #[] 112)).heap.size (.slice (some ⟨(w6.alloc (.cells #[] 112)).heap.size, 0, none⟩) 0 0) []) (litKd (w6.alloc (.cells #[] 112))) (Nat.le_refl _))
          simp only [World.size_alloc] at HH7
          have hs6 : w.heap.size ≤ w6.heap.size := HH6.out.bel.size
          have hs67 : w6.heap.size ≤ ((w6.alloc (.cells #[] 112)).alloc (.cells #[] 36)).heap.size := by simp only [World.size_alloc]; omega
          clear HH6
          clear o0 o1 o2 of0 of1 of2 r0 r1 rf0 rf1 t0 t1 t2 tf0 tf1 tf2 k0 k1 p0 p1 p2
  
          obtain ⟨⟨o0, o1, o2⟩, of0, of1, of2⟩ := box3 HH7.out.b0
          obtain ⟨⟨r0, r1⟩, rf0, rf1⟩ := box2K HH7.out.b1
          obtain ⟨⟨t0, t1, t2⟩, tf0, tf1, tf2⟩ := box3 HH7.out.b2
          obtain ⟨⟨k0, k1⟩, _, _⟩ := box2K HH7.out.b3
          obtain ⟨⟨p0, p1, p2⟩, _, _, _⟩ := box3 HH7.out.b4
          go_wp2_with fail
          generalize (w6.alloc (.cells #[] 112)).alloc (.cells #[] 36) = w7 at *
          refine (l3Join_eq ep m hl (show Ints w1.heap.size (.slice a2 15 c2) vs w7 from HH7.out.r2) (show Seats w1.heap.size (.slice e2 n d2) ss w7 from HH7.out.r3) (by rw [HN.out]; omega)).mono ?_
          rintro e w8 (⟨rfl, b8⟩ | ⟨j, y', v', ws', u', ks', hj8, hso, rfl, k8, y8, v8, hw8, u8, hu8, g8⟩)
          · have HH8 := hidS (HH7.out.since b8)
            clear HH7 b8
            clear o0 o1 o2 of0 of1 of2 r0 r1 rf0 rf1 t0 t1 t2 tf0 tf1 tf2 k0 k1 p0 p1 p2
    
            obtain ⟨⟨o0, o1, o2⟩, of0, of1, of2⟩ := box3 HH8.out.b0
            obtain ⟨⟨r0, r1⟩, rf0, rf1⟩ := box2K HH8.out.b1
            obtain ⟨⟨t0, t1, t2⟩, tf0, tf1, tf2⟩ := box3 HH8.out.b2
            obtain ⟨⟨k0, k1⟩, _, _⟩ := box2K HH8.out.b3
            obtain ⟨⟨p0, p1, p2⟩, _, _, _⟩ := box3 HH8.out.b4
    
            have HH9 := hidS (((HH8.out.s300 (.int .i64 ep)).s301 (.slice a2 15 c2)).s302 (.slice e2 n d2))
            clear HH8
            go_upto_region 21 with fail
            generalize ((w8.setCell ⟨w2.heap.size, 0, none⟩ (.int .i64 ep)).setCell ⟨w2.heap.size, 1, none⟩ (.slice a2 15 c2)).setCell ⟨w2.heap.size, 2, none⟩ (.slice e2 n d2) = w9 at *
            clear o0 o1 o2 of0 of1 of2 r0 r1 rf0 rf1 t0 t1 t2 tf0 tf1 tf2 k0 k1 p0 p1 p2
    
            obtain ⟨⟨o0, o1, o2⟩, of0, of1, of2⟩ := box3 HH9.out.b0
            obtain ⟨⟨r0, r1⟩, rf0, rf1⟩ := box2K HH9.out.b1
            obtain ⟨⟨t0, t1, t2⟩, tf0, tf1, tf2⟩ := box3 HH9.out.b2
            obtain ⟨⟨k0, k1⟩, _, _⟩ := box2K HH9.out.b3
            obtain ⟨⟨p0, p1, p2⟩, _, _, _⟩ := box3 HH9.out.b4
    
            go_wp2_with fail
            refine (l3Copy_any ep (HX.out _ HH9.out.bel) (HY.out _ HH9.out.bel) (by omega) (by rw [HN.out]; omega)).mono ?_
            rintro e w10 ⟨x9, y9, rfl, s9, b9⟩
            obtain ⟨a9, c9, hv9, _, _⟩ := s9.1.row
            obtain ⟨e9, d9, hw9, _, _⟩ := s9.2.1.row
            rw [hl] at hv9
            rw [HN.out] at hw9
            subst hv9 hw9
            have HH10 := hidS (HH9.out.adds b9 [fI w9.heap.size (.slice a9 15 c9) vs, fS w9.heap.size (.slice e9 n d9) ss] (fun r hr => by
                simp only [List.mem_cons, List.not_mem_nil, or_false] at hr
                rcases hr with rfl | rfl
                · exact s9.1
                · exact s9.2.1) (fun r hr => by
                simp only [List.mem_cons, List.not_mem_nil, or_false] at hr
                rcases hr with rfl | rfl <;> exact Nat.le_refl _) (List.pairwise_cons.2 ⟨fun r hr => by
                simp only [List.mem_cons, List.not_mem_nil, or_false] at hr
                subst hr
                exact s9.2.2, List.pairwise_cons.2 ⟨(fun _ h => (by cases h)), .nil⟩⟩))
            simp only [List.cons_append, List.nil_append] at HH10
            have hs9 : w.heap.size ≤ w9.heap.size := HH9.out.bel.size
            clear b9 s9 HH9
            clear o0 o1 o2 of0 of1 of2 r0 r1 rf0 rf1 t0 t1 t2 tf0 tf1 tf2 k0 k1 p0 p1 p2
    
            obtain ⟨⟨o0, o1, o2⟩, of0, of1, of2⟩ := box3 HH10.out.b0
            obtain ⟨⟨r0, r1⟩, rf0, rf1⟩ := box2K HH10.out.b1
            obtain ⟨⟨t0, t1, t2⟩, tf0, tf1, tf2⟩ := box3 HH10.out.b2
            obtain ⟨⟨k0, k1⟩, _, _⟩ := box2K HH10.out.b3
            obtain ⟨⟨p0, p1, p2⟩, _, _, _⟩ := box3 HH10.out.b4
    
            have HE := hidS (((((HH10.out.s320 (.int .i64 ep)).s321 (.slice a9 15 c9)).s322 (.slice e9 n d9)).s210 (.int .i64 0)).s211 (.slice none 0 0))
            clear HH10
            go_wp2
            have HE' := HE.out
            generalize ((((w10.setCell ⟨w.heap.size + 1 + 1, 0, none⟩ (.int .i64 ep)).setCell ⟨w.heap.size + 1 + 1, 1, none⟩ (.slice a9 15 c9)).setCell ⟨w.heap.size + 1 + 1, 2, none⟩ (.slice e9 n d9)).setCell ⟨w.heap.size + 1 + 1 + 1, 0, none⟩ (.int .i64 0)).setCell ⟨w.heap.size + 1 + 1 + 1, 1, none⟩ (.slice none 0 0) = WF at HE' ⊢
            obtain ⟨⟨z0, z1, z2⟩, _, _, _⟩ := box3 HE'.b2
            obtain ⟨⟨z3, z4⟩, _, _⟩ := box2K HE'.b1
            have kI : Ints w9.heap.size (.slice a9 15 c9) vs WF := HE'.r0
            have kS : Seats w9.heap.size (.slice e9 n d9) ss WF := HE'.r1
            exact bodyPost_ret (v := .tuple #[svv ep (.slice a9 15 c9) (.slice e9 n d9), rvD 0 (.slice none 0 0), (.slice none 0 0), .int .i64 5]) (by simp [results, Try.results66, go_sem, z0, z1, z2, z3, z4]) rfl ⟨ep, _, _, vs, ss, 0, _, [], _, [], 5, rfl, by omega, kI.mono hs9, kS.mono hs9, by rw [HN.out]; omega, World.ownsRow_nil _ _ _ _, by simp, World.ownsRow_nil _ _ _ _, by simp, below_none HE'.bel, fun h => h⟩
          · have HOK0 := hidS (fun h : serverB ep vs ss = true => join_right h HRM.out HM.out (by rw [HLF.out]; omega) hj8 hso)
            obtain ⟨vs', HVS⟩ : ∃ V, Hid (raiseL vs (idx (path (8 + (j : Int)))) = V) := ⟨_, rfl⟩
            obtain ⟨ss', HSS⟩ : ∃ V, Hid (seatIn m (8 + (j : Int)) ss = V) := ⟨_, rfl⟩
            rw [HVS.out] at k8 HOK0
            rw [HSS.out] at y8 HOK0
            have HOK := hidS HOK0.out
            have hv' : vs'.length = 15 := by rw [← HVS.out, raiseL_len, hl]
            have hy8 : ss'.length ≤ ss.length + 1 := by rw [← HSS.out, seatIn_len]; exact Nat.le_refl _
            clear HOK0 HVS HSS hso hj8
            obtain ⟨ya, yc, hvy8, _, _⟩ := y8.row
            obtain ⟨va, vc, hvv8⟩ := wrapsF v8
            obtain ⟨ua, uc, hvu8, _, _⟩ := u8.row
            subst hvy8 hvv8 hvu8
            rw [HN.out] at hy8
            have HH8 := hidS (HH7.out.front2.more g8 (r' := fI w1.heap.size (.slice a2 15 c2) vs') k8 rfl rfl [fS w7.heap.size (.slice ya ss'.length yc) ss', fW w7.heap.size (.slice va ws'.length vc) ws', fK w7.heap.size (.slice ua ks'.length uc) ks'] (three_rows y8 v8 u8).1 (fun s hs => by
                simp only [List.mem_cons, List.not_mem_nil, or_false] at hs
                rcases hs with rfl | rfl | rfl <;> exact Nat.le_refl _) (three_rows y8 v8 u8).2)
            simp only [List.cons_append, List.nil_append] at HH8
            have hs7 : w.heap.size ≤ w7.heap.size := HH7.out.bel.size
            clear HH7 k8 y8 v8 u8 g8
            clear o0 o1 o2 of0 of1 of2 r0 r1 rf0 rf1 t0 t1 t2 tf0 tf1 tf2 k0 k1 p0 p1 p2
  
            obtain ⟨⟨o0, o1, o2⟩, of0, of1, of2⟩ := box3 HH8.out.b0
            obtain ⟨⟨r0, r1⟩, rf0, rf1⟩ := box2K HH8.out.b1
            obtain ⟨⟨t0, t1, t2⟩, tf0, tf1, tf2⟩ := box3 HH8.out.b2
            obtain ⟨⟨k0, k1⟩, _, _⟩ := box2K HH8.out.b3
            obtain ⟨⟨p0, p1, p2⟩, _, _, _⟩ := box3 HH8.out.b4
            have HF := hidS ((((HH8.out.s300 (.int .i64 ep)).s301 (.slice a2 15 c2)).s302 (.slice ya ss'.length yc)).s300 (.int .i64 (wrap64 (ep + 1))))
            clear HH8
            go_wp2
            generalize (((w8.setCell ⟨w2.heap.size, 0, none⟩ (.int .i64 ep)).setCell ⟨w2.heap.size, 1, none⟩ (.slice a2 15 c2)).setCell ⟨w2.heap.size, 2, none⟩ (.slice ya ss'.length yc)).setCell ⟨w2.heap.size, 0, none⟩ (.int .i64 (wrap64 (ep + 1))) = wf at *
            clear o0 o1 o2 of0 of1 of2 r0 r1 rf0 rf1 t0 t1 t2 tf0 tf1 tf2 k0 k1 p0 p1 p2
  
            obtain ⟨⟨o0, o1, o2⟩, of0, of1, of2⟩ := box3 HF.out.b0
            obtain ⟨⟨r0, r1⟩, rf0, rf1⟩ := box2K HF.out.b1
            obtain ⟨⟨t0, t1, t2⟩, tf0, tf1, tf2⟩ := box3 HF.out.b2
            obtain ⟨⟨k0, k1⟩, _, _⟩ := box2K HF.out.b3
            obtain ⟨⟨p0, p1, p2⟩, _, _, _⟩ := box3 HF.out.b4
  
            have hne2 : w2.heap.size ≠ w.heap.size + 1 + 1 := (List.pairwise_cons.1 HF.out.nod).1 _ (.tail _ (.head _))
            have hne3 : w2.heap.size ≠ w.heap.size + 1 + 1 + 1 := (List.pairwise_cons.1 HF.out.nod).1 _ (.head _)
            have L0 := And.intro o0 (And.intro o1 o2)
            have LA := three_set L0 hne2 hne2 hne2 (.int .i64 (wrap64 (ep + 1))) (.slice a2 15 c2) (.slice ya ss'.length yc)
            have LAB := two_set LA hne3 hne3 hne3 (.int .i64 (wrap64 (ep + 1))) (.slice va ws'.length vc)
            have LB := two_set L0 hne3 hne3 hne3 (.int .i64 (wrap64 (ep + 1))) (.slice va ws'.length vc)
            have LBA := three_set LB hne2 hne2 hne2 (.int .i64 (wrap64 (ep + 1))) (.slice a2 15 c2) (.slice ya ss'.length yc)
            have L0 := drew3 L0
            have LA := drew3 LA
            have LAB := drew3 LAB
            have LB := drew3 LB
            have LBA := drew3 LBA
            go_region_held3 (fun W => W.cell? ⟨w2.heap.size, 0, none⟩ = some (.int .i64 (wrap64 (ep + 1))) ∧ W.cell? ⟨w2.heap.size, 1, none⟩ = some (.slice a2 15 c2) ∧ W.cell? ⟨w2.heap.size, 2, none⟩ = some (.slice ya ss'.length yc))
              (first | with_reducible exact L0 | with_reducible exact LA | with_reducible exact LAB | with_reducible exact LB | with_reducible exact LBA)
              (fail)
            all_goals
              rename_i hHeld
              have HE := hidS ((((((HF.out.s320 (.int .i64 (wrap64 (ep + 1)))).s321 (.slice a2 15 c2)).s322 (.slice ya ss'.length yc)).s210 (.int .i64 (wrap64 (ep + 1)))).s211 (.slice va ws'.length vc)).drew)
              clear hHeld HF L0 LA LAB LB LBA
              clear o0 o1 o2 of0 of1 of2 r0 r1 rf0 rf1 t0 t1 t2 tf0 tf1 tf2 k0 k1 p0 p1 p2
              generalize (((((wf.setCell ⟨w.heap.size + 1 + 1, 0, none⟩ (.int .i64 (wrap64 (ep + 1)))).setCell ⟨w.heap.size + 1 + 1, 1, none⟩ (.slice a2 15 c2)).setCell ⟨w.heap.size + 1 + 1, 2, none⟩ (.slice ya ss'.length yc)).setCell ⟨w.heap.size + 1 + 1 + 1, 0, none⟩ (.int .i64 (wrap64 (ep + 1)))).setCell ⟨w.heap.size + 1 + 1 + 1, 1, none⟩ (.slice va ws'.length vc)).drew = WF at *
              go_wp2
              have HE' := HE.out
              obtain ⟨⟨z0, z1, z2⟩, _, _, _⟩ := box3 HE'.b2
              obtain ⟨⟨z3, z4⟩, _, _⟩ := box2K HE'.b1
              have kI : Ints w1.heap.size (.slice a2 15 c2) vs' WF := HE'.r3
              have kS : Seats w7.heap.size (.slice ya ss'.length yc) ss' WF := HE'.r0
              have kW : Wraps w7.heap.size (.slice va ws'.length vc) ws' WF := HE'.r1
              have kK : Keys w7.heap.size (.slice ua ks'.length uc) ks' WF := HE'.r2
              exact bodyPost_ret (v := .tuple #[svv (wrap64 (ep + 1)) (.slice a2 15 c2) (.slice ya ss'.length yc), rvD (wrap64 (ep + 1)) (.slice va ws'.length vc), (.slice ua ks'.length uc), .int .i64 0]) (by simp [results, Try.results66, go_sem, z0, z1, z2, z3, z4]) rfl ⟨_, _, _, vs', ss', _, _, ws', _, ks', 0, rfl, by omega, kI.mono hs1, kS.mono (by omega), by omega, kW.mono (by omega), by omega, kK.mono (by omega), by omega, below_none HE'.bel, HOK.out⟩
    · have hk1' : (k == 1) = false := by simpa using hk1
      clear hk1
      by_cases hk2 : k = 2
      · have hk2' : (k == 2) = true := by simpa using hk2
        clear hk2
        by_cases hlf : 0 < lf
        · have hd : decide (0 < lf) = true := decide_eq_true hlf
          go_wp2_with fail
          refine (l3Room_eq ep (HX.out _ HH5.out.bel)).mono ?_
          rintro e w6 ⟨rfl, b6⟩
          obtain ⟨rm, HRM⟩ : ∃ rm, Hid (roomB ep vs = rm) := ⟨_, rfl⟩
          rw [HRM.out]
          have HH6 := hidS (HH5.out.since b6)
          clear b6 HH5
          clear o0 o1 o2 of0 of1 of2 r0 r1 rf0 rf1 t0 t1 t2 tf0 tf1 tf2 k0 k1 p0 p1 p2
  
          obtain ⟨⟨o0, o1, o2⟩, of0, of1, of2⟩ := box3 HH6.out.b0
          obtain ⟨⟨r0, r1⟩, rf0, rf1⟩ := box2K HH6.out.b1
          obtain ⟨⟨t0, t1, t2⟩, tf0, tf1, tf2⟩ := box3 HH6.out.b2
          obtain ⟨⟨k0, k1⟩, _, _⟩ := box2K HH6.out.b3
          obtain ⟨⟨p0, p1, p2⟩, _, _, _⟩ := box3 HH6.out.b4
  
          cases rm with
          | false =>
            have HE := hidS (((((HH6.out.s320 (.int .i64 ep)).s321 (.slice a2 15 c2)).s322 (.slice e2 n d2)).s210 (.int .i64 0)).s211 (.slice none 0 0))
            clear HH6
            go_wp2
            have HE' := HE.out
            generalize ((((w6.setCell ⟨w.heap.size + 1 + 1, 0, none⟩ (.int .i64 ep)).setCell ⟨w.heap.size + 1 + 1, 1, none⟩ (.slice a2 15 c2)).setCell ⟨w.heap.size + 1 + 1, 2, none⟩ (.slice e2 n d2)).setCell ⟨w.heap.size + 1 + 1 + 1, 0, none⟩ (.int .i64 0)).setCell ⟨w.heap.size + 1 + 1 + 1, 1, none⟩ (.slice none 0 0) = WF at HE' ⊢
            obtain ⟨⟨z0, z1, z2⟩, _, _, _⟩ := box3 HE'.b2
            obtain ⟨⟨z3, z4⟩, _, _⟩ := box2K HE'.b1
            have kI : Ints w1.heap.size (.slice a2 15 c2) vs WF := HE'.r0
            have kS : Seats w1.heap.size (.slice e2 n d2) ss WF := HE'.r1
            exact bodyPost_ret (v := .tuple #[svv ep (.slice a2 15 c2) (.slice e2 n d2), rvD 0 (.slice none 0 0), (.slice none 0 0), .int .i64 5]) (by simp [results, Try.results66, go_sem, z0, z1, z2, z3, z4]) rfl ⟨ep, _, _, vs, ss, 0, _, [], _, [], 5, rfl, by omega, kI.mono hs1, kS.mono hs1, by rw [HN.out]; omega, World.ownsRow_nil _ _ _ _, by simp, World.ownsRow_nil _ _ _ _, by simp, below_none HE'.bel, fun h => h⟩
          | true =>
            have HH7 := hidS ((HH6.out.add (one_below w6 (.cells #[] 112)) (r := fW w6.heap.size (.slice (some ⟨w6.heap.size, 0, none⟩) 0 0) []) (litWd w6) (Nat.le_refl _)).add (one_below _ (.cells #[] 36)) (r := fK (w6.alloc (.cells #[] 112)).heap.size (.slice (some ⟨(w6.alloc (.cells #[] 112)).heap.size, 0, none⟩) 0 0) []) (litKd (w6.alloc (.cells #[] 112))) (Nat.le_refl _))
            simp only [World.size_alloc] at HH7
            have hs6 : w.heap.size ≤ w6.heap.size := HH6.out.bel.size
            have hs67 : w6.heap.size ≤ ((w6.alloc (.cells #[] 112)).alloc (.cells #[] 36)).heap.size := by simp only [World.size_alloc]; omega
            clear HH6
            clear o0 o1 o2 of0 of1 of2 r0 r1 rf0 rf1 t0 t1 t2 tf0 tf1 tf2 k0 k1 p0 p1 p2
  
            obtain ⟨⟨o0, o1, o2⟩, of0, of1, of2⟩ := box3 HH7.out.b0
            obtain ⟨⟨r0, r1⟩, rf0, rf1⟩ := box2K HH7.out.b1
            obtain ⟨⟨t0, t1, t2⟩, tf0, tf1, tf2⟩ := box3 HH7.out.b2
            obtain ⟨⟨k0, k1⟩, _, _⟩ := box2K HH7.out.b3
            obtain ⟨⟨p0, p1, p2⟩, _, _, _⟩ := box3 HH7.out.b4
            go_wp2_with fail
            generalize (w6.alloc (.cells #[] 112)).alloc (.cells #[] 36) = w7 at *
            refine (l3Leave_eq ep m hl (show Ints w1.heap.size (.slice a2 15 c2) vs w7 from HH7.out.r2) (show Seats w1.heap.size (.slice e2 n d2) ss w7 from HH7.out.r3) (by rw [HN.out]; omega)).mono ?_
            rintro e w8 ⟨y', v', ws', rfl, k8, y8, v8, hw8, g8⟩
            have HOK0 := hidS (fun h : serverB ep vs ss = true => leave_right (m := m) h HRM.out (by rw [HLF.out]; exact hlf))
            obtain ⟨vs', HVS⟩ : ∃ V, Hid (raiseL vs (idx (path (leafV ss m))) = V) := ⟨_, rfl⟩
            obtain ⟨ss', HSS⟩ : ∃ V, Hid ((ss.filter fun s => decide (s.1 ≠ m)) = V) := ⟨_, rfl⟩
            rw [HVS.out] at k8 HOK0
            rw [HSS.out] at y8 HOK0
            have HOK := hidS HOK0.out
            have hv' : vs'.length = 15 := by rw [← HVS.out, raiseL_len, hl]
            have hy8 : ss'.length ≤ ss.length := by rw [← HSS.out]; exact List.length_filter_le _ _
            clear HOK0 HVS HSS
            obtain ⟨ya, yc, hvy8, _, _⟩ := y8.row
            obtain ⟨va, vc, hvv8⟩ := wrapsF v8
            subst hvy8 hvv8
            rw [HN.out] at hy8
            have HH8 := hidS (HH7.out.front2.more g8 (r' := fI w1.heap.size (.slice a2 15 c2) vs') k8 rfl rfl [fS w7.heap.size (.slice ya ss'.length yc) ss', fW w7.heap.size (.slice va ws'.length vc) ws'] (two_rows y8 v8).1 (fun s hs => by
                simp only [List.mem_cons, List.not_mem_nil, or_false] at hs
                rcases hs with rfl | rfl <;> exact Nat.le_refl _) (two_rows y8 v8).2)
            simp only [List.cons_append, List.nil_append] at HH8
            have hs7 : w.heap.size ≤ w7.heap.size := HH7.out.bel.size
            clear HH7 k8 y8 v8 g8
            clear o0 o1 o2 of0 of1 of2 r0 r1 rf0 rf1 t0 t1 t2 tf0 tf1 tf2 k0 k1 p0 p1 p2
  
            obtain ⟨⟨o0, o1, o2⟩, of0, of1, of2⟩ := box3 HH8.out.b0
            obtain ⟨⟨r0, r1⟩, rf0, rf1⟩ := box2K HH8.out.b1
            obtain ⟨⟨t0, t1, t2⟩, tf0, tf1, tf2⟩ := box3 HH8.out.b2
            obtain ⟨⟨k0, k1⟩, _, _⟩ := box2K HH8.out.b3
            obtain ⟨⟨p0, p1, p2⟩, _, _, _⟩ := box3 HH8.out.b4
  
            have HF := hidS ((((HH8.out.s300 (.int .i64 ep)).s301 (.slice a2 15 c2)).s302 (.slice ya ss'.length yc)).s300 (.int .i64 (wrap64 (ep + 1))))
            clear HH8
            go_wp2
            generalize (((w8.setCell ⟨w2.heap.size, 0, none⟩ (.int .i64 ep)).setCell ⟨w2.heap.size, 1, none⟩ (.slice a2 15 c2)).setCell ⟨w2.heap.size, 2, none⟩ (.slice ya ss'.length yc)).setCell ⟨w2.heap.size, 0, none⟩ (.int .i64 (wrap64 (ep + 1))) = wf at *
            clear o0 o1 o2 of0 of1 of2 r0 r1 rf0 rf1 t0 t1 t2 tf0 tf1 tf2 k0 k1 p0 p1 p2
  
            obtain ⟨⟨o0, o1, o2⟩, of0, of1, of2⟩ := box3 HF.out.b0
            obtain ⟨⟨r0, r1⟩, rf0, rf1⟩ := box2K HF.out.b1
            obtain ⟨⟨t0, t1, t2⟩, tf0, tf1, tf2⟩ := box3 HF.out.b2
            obtain ⟨⟨k0, k1⟩, _, _⟩ := box2K HF.out.b3
            obtain ⟨⟨p0, p1, p2⟩, _, _, _⟩ := box3 HF.out.b4
  
            have hne2 : w2.heap.size ≠ w.heap.size + 1 + 1 := (List.pairwise_cons.1 HF.out.nod).1 _ (.tail _ (.head _))
            have hne3 : w2.heap.size ≠ w.heap.size + 1 + 1 + 1 := (List.pairwise_cons.1 HF.out.nod).1 _ (.head _)
            have L0 := And.intro o0 (And.intro o1 o2)
            have LA := three_set L0 hne2 hne2 hne2 (.int .i64 (wrap64 (ep + 1))) (.slice a2 15 c2) (.slice ya ss'.length yc)
            have LAB := two_set LA hne3 hne3 hne3 (.int .i64 (wrap64 (ep + 1))) (.slice va ws'.length vc)
            have LB := two_set L0 hne3 hne3 hne3 (.int .i64 (wrap64 (ep + 1))) (.slice va ws'.length vc)
            have LBA := three_set LB hne2 hne2 hne2 (.int .i64 (wrap64 (ep + 1))) (.slice a2 15 c2) (.slice ya ss'.length yc)
            have L0 := drew3 L0
            have LA := drew3 LA
            have LAB := drew3 LAB
            have LB := drew3 LB
            have LBA := drew3 LBA
            go_region_held3 (fun W => W.cell? ⟨w2.heap.size, 0, none⟩ = some (.int .i64 (wrap64 (ep + 1))) ∧ W.cell? ⟨w2.heap.size, 1, none⟩ = some (.slice a2 15 c2) ∧ W.cell? ⟨w2.heap.size, 2, none⟩ = some (.slice ya ss'.length yc))
              (first | with_reducible exact L0 | with_reducible exact LA | with_reducible exact LAB | with_reducible exact LB | with_reducible exact LBA)
              (fail)
            all_goals
              rename_i hHeld
              have HE := hidS ((((((HF.out.s320 (.int .i64 (wrap64 (ep + 1)))).s321 (.slice a2 15 c2)).s322 (.slice ya ss'.length yc)).s210 (.int .i64 (wrap64 (ep + 1)))).s211 (.slice va ws'.length vc)).drew)
              clear hHeld HF L0 LA LAB LB LBA
              clear o0 o1 o2 of0 of1 of2 r0 r1 rf0 rf1 t0 t1 t2 tf0 tf1 tf2 k0 k1 p0 p1 p2
              generalize (((((wf.setCell ⟨w.heap.size + 1 + 1, 0, none⟩ (.int .i64 (wrap64 (ep + 1)))).setCell ⟨w.heap.size + 1 + 1, 1, none⟩ (.slice a2 15 c2)).setCell ⟨w.heap.size + 1 + 1, 2, none⟩ (.slice ya ss'.length yc)).setCell ⟨w.heap.size + 1 + 1 + 1, 0, none⟩ (.int .i64 (wrap64 (ep + 1)))).setCell ⟨w.heap.size + 1 + 1 + 1, 1, none⟩ (.slice va ws'.length vc)).drew = WF at *
              go_wp2
              have HE' := HE.out
              obtain ⟨⟨z0, z1, z2⟩, _, _, _⟩ := box3 HE'.b2
              obtain ⟨⟨z3, z4⟩, _, _⟩ := box2K HE'.b1
              have kI : Ints w1.heap.size (.slice a2 15 c2) vs' WF := HE'.r2
              have kS : Seats w7.heap.size (.slice ya ss'.length yc) ss' WF := HE'.r0
              have kW : Wraps w7.heap.size (.slice va ws'.length vc) ws' WF := HE'.r1
              have kK : Keys (w6.heap.size + 1) (.slice (some ⟨w6.heap.size + 1, 0, none⟩) 0 0) [] WF := HE'.r3
              exact bodyPost_ret (v := .tuple #[svv (wrap64 (ep + 1)) (.slice a2 15 c2) (.slice ya ss'.length yc), rvD (wrap64 (ep + 1)) (.slice va ws'.length vc), (.slice (some ⟨w6.heap.size + 1, 0, none⟩) 0 0), .int .i64 0]) (by simp [results, Try.results66, go_sem, z0, z1, z2, z3, z4]) rfl ⟨_, _, _, vs', ss', _, _, ws', _, [], 0, rfl, by omega, kI.mono hs1, kS.mono (by omega), by omega, kW.mono (by omega), by omega, kK.mono (by omega), by simp, below_none HE'.bel, HOK.out⟩
        · have hd : decide (0 < lf) = false := decide_eq_false hlf
          have HE := hidS (((((HH5.out.s320 (.int .i64 ep)).s321 (.slice a2 15 c2)).s322 (.slice e2 n d2)).s210 (.int .i64 0)).s211 (.slice none 0 0))
          clear HH5
          go_wp2
          have HE' := HE.out
          generalize ((((w5.setCell ⟨w.heap.size + 1 + 1, 0, none⟩ (.int .i64 ep)).setCell ⟨w.heap.size + 1 + 1, 1, none⟩ (.slice a2 15 c2)).setCell ⟨w.heap.size + 1 + 1, 2, none⟩ (.slice e2 n d2)).setCell ⟨w.heap.size + 1 + 1 + 1, 0, none⟩ (.int .i64 0)).setCell ⟨w.heap.size + 1 + 1 + 1, 1, none⟩ (.slice none 0 0) = WF at HE' ⊢
          obtain ⟨⟨z0, z1, z2⟩, _, _, _⟩ := box3 HE'.b2
          obtain ⟨⟨z3, z4⟩, _, _⟩ := box2K HE'.b1
          have kI : Ints w1.heap.size (.slice a2 15 c2) vs WF := HE'.r0
          have kS : Seats w1.heap.size (.slice e2 n d2) ss WF := HE'.r1
          exact bodyPost_ret (v := .tuple #[svv ep (.slice a2 15 c2) (.slice e2 n d2), rvD 0 (.slice none 0 0), (.slice none 0 0), .int .i64 4]) (by simp [results, Try.results66, go_sem, z0, z1, z2, z3, z4]) rfl ⟨ep, _, _, vs, ss, 0, _, [], _, [], 4, rfl, by omega, kI.mono hs1, kS.mono hs1, by rw [HN.out]; omega, World.ownsRow_nil _ _ _ _, by simp, World.ownsRow_nil _ _ _ _, by simp, below_none HE'.bel, fun h => h⟩
      · have hk2' : (k == 2) = false := by simpa using hk2
        clear hk2
        go_wp2_with fail
        refine (l3Room_eq ep (HX.out _ HH5.out.bel)).mono ?_
        rintro e w6 ⟨rfl, b6⟩
        obtain ⟨rm, HRM⟩ : ∃ rm, Hid (roomB ep vs = rm) := ⟨_, rfl⟩
        rw [HRM.out]
        have HH6 := hidS (HH5.out.since b6)
        clear b6 HH5
        clear o0 o1 o2 of0 of1 of2 r0 r1 rf0 rf1 t0 t1 t2 tf0 tf1 tf2 k0 k1 p0 p1 p2

        obtain ⟨⟨o0, o1, o2⟩, of0, of1, of2⟩ := box3 HH6.out.b0
        obtain ⟨⟨r0, r1⟩, rf0, rf1⟩ := box2K HH6.out.b1
        obtain ⟨⟨t0, t1, t2⟩, tf0, tf1, tf2⟩ := box3 HH6.out.b2
        obtain ⟨⟨k0, k1⟩, _, _⟩ := box2K HH6.out.b3
        obtain ⟨⟨p0, p1, p2⟩, _, _, _⟩ := box3 HH6.out.b4

        cases rm with
        | false =>
          have HE := hidS (((((HH6.out.s320 (.int .i64 ep)).s321 (.slice a2 15 c2)).s322 (.slice e2 n d2)).s210 (.int .i64 0)).s211 (.slice none 0 0))
          clear HH6
          go_wp2
          have HE' := HE.out
          generalize ((((w6.setCell ⟨w.heap.size + 1 + 1, 0, none⟩ (.int .i64 ep)).setCell ⟨w.heap.size + 1 + 1, 1, none⟩ (.slice a2 15 c2)).setCell ⟨w.heap.size + 1 + 1, 2, none⟩ (.slice e2 n d2)).setCell ⟨w.heap.size + 1 + 1 + 1, 0, none⟩ (.int .i64 0)).setCell ⟨w.heap.size + 1 + 1 + 1, 1, none⟩ (.slice none 0 0) = WF at HE' ⊢
          obtain ⟨⟨z0, z1, z2⟩, _, _, _⟩ := box3 HE'.b2
          obtain ⟨⟨z3, z4⟩, _, _⟩ := box2K HE'.b1
          have kI : Ints w1.heap.size (.slice a2 15 c2) vs WF := HE'.r0
          have kS : Seats w1.heap.size (.slice e2 n d2) ss WF := HE'.r1
          exact bodyPost_ret (v := .tuple #[svv ep (.slice a2 15 c2) (.slice e2 n d2), rvD 0 (.slice none 0 0), (.slice none 0 0), .int .i64 5]) (by simp [results, Try.results66, go_sem, z0, z1, z2, z3, z4]) rfl ⟨ep, _, _, vs, ss, 0, _, [], _, [], 5, rfl, by omega, kI.mono hs1, kS.mono hs1, by rw [HN.out]; omega, World.ownsRow_nil _ _ _ _, by simp, World.ownsRow_nil _ _ _ _, by simp, below_none HE'.bel, fun h => h⟩
        | true =>
          have HH7 := hidS ((HH6.out.add (one_below w6 (.cells #[] 112)) (r := fW w6.heap.size (.slice (some ⟨w6.heap.size, 0, none⟩) 0 0) []) (litWd w6) (Nat.le_refl _)).add (one_below _ (.cells #[] 36)) (r := fK (w6.alloc (.cells #[] 112)).heap.size (.slice (some ⟨(w6.alloc (.cells #[] 112)).heap.size, 0, none⟩) 0 0) []) (litKd (w6.alloc (.cells #[] 112))) (Nat.le_refl _))
          simp only [World.size_alloc] at HH7
          have hs6 : w.heap.size ≤ w6.heap.size := HH6.out.bel.size
          have hs67 : w6.heap.size ≤ ((w6.alloc (.cells #[] 112)).alloc (.cells #[] 36)).heap.size := by simp only [World.size_alloc]; omega
          clear HH6
          clear o0 o1 o2 of0 of1 of2 r0 r1 rf0 rf1 t0 t1 t2 tf0 tf1 tf2 k0 k1 p0 p1 p2

          obtain ⟨⟨o0, o1, o2⟩, of0, of1, of2⟩ := box3 HH7.out.b0
          obtain ⟨⟨r0, r1⟩, rf0, rf1⟩ := box2K HH7.out.b1
          obtain ⟨⟨t0, t1, t2⟩, tf0, tf1, tf2⟩ := box3 HH7.out.b2
          obtain ⟨⟨k0, k1⟩, _, _⟩ := box2K HH7.out.b3
          obtain ⟨⟨p0, p1, p2⟩, _, _, _⟩ := box3 HH7.out.b4
          go_wp2_with fail
          generalize (w6.alloc (.cells #[] 112)).alloc (.cells #[] 36) = w7 at *
          have hr := l3Raise_eq (x := (.slice a2 15 c2)) ep e2 n d2 0 (by omega) hl (show Ints w1.heap.size (.slice a2 15 c2) vs w7 from HH7.out.r2)
          rw [show (((0 : Nat) : Int) + 1) = 1 from rfl] at hr
          refine hr.mono ?_
          rintro e w8 ⟨rfl, k8, g8⟩
          have HOK0 := hidS (fun h : serverB ep vs ss = true => refresh_right h HRM.out)
          obtain ⟨z8, HZ8⟩ : ∃ z, Hid (wrap64 (vAt vs 0 + 1) = z) := ⟨_, rfl⟩
          rw [HZ8.out] at k8 HOK0
          have HOK := hidS HOK0.out
          clear HOK0 HZ8
          have HH8 := hidS (HH7.out.front2.more g8 (r' := fI w1.heap.size (.slice a2 15 c2) (vs.set 0 z8)) k8 rfl rfl [] (fun _ h => (by cases h)) (fun _ h => (by cases h)) .nil)
          simp only [List.nil_append] at HH8
          have hv8 : (vs.set 0 z8).length = 15 := by rw [List.length_set]; exact hl
          have hs7 : w6.heap.size ≤ w8.heap.size := Nat.le_trans hs67 g8.size
          clear HH7 k8 g8 hr
          clear o0 o1 o2 of0 of1 of2 r0 r1 rf0 rf1 t0 t1 t2 tf0 tf1 tf2 k0 k1 p0 p1 p2

          obtain ⟨⟨o0, o1, o2⟩, of0, of1, of2⟩ := box3 HH8.out.b0
          obtain ⟨⟨r0, r1⟩, rf0, rf1⟩ := box2K HH8.out.b1
          obtain ⟨⟨t0, t1, t2⟩, tf0, tf1, tf2⟩ := box3 HH8.out.b2
          obtain ⟨⟨k0, k1⟩, _, _⟩ := box2K HH8.out.b3
          obtain ⟨⟨p0, p1, p2⟩, _, _, _⟩ := box3 HH8.out.b4

          have HH9 := hidS (((HH8.out.s300 (.int .i64 ep)).s301 (.slice a2 15 c2)).s302 (.slice e2 n d2))
          have hs9 : w6.heap.size ≤ (((w8.setCell ⟨w2.heap.size, 0, none⟩ (.int .i64 ep)).setCell ⟨w2.heap.size, 1, none⟩ (.slice a2 15 c2)).setCell ⟨w2.heap.size, 2, none⟩ (.slice e2 n d2)).heap.size := by simp only [World.setCell, Array.size_modify]; exact hs7
          clear HH8
          go_wp2_with fail
          generalize ((w8.setCell ⟨w2.heap.size, 0, none⟩ (.int .i64 ep)).setCell ⟨w2.heap.size, 1, none⟩ (.slice a2 15 c2)).setCell ⟨w2.heap.size, 2, none⟩ (.slice e2 n d2) = w9 at *
          clear o0 o1 o2 of0 of1 of2 r0 r1 rf0 rf1 t0 t1 t2 tf0 tf1 tf2 k0 k1 p0 p1 p2

          obtain ⟨⟨o0, o1, o2⟩, of0, of1, of2⟩ := box3 HH9.out.b0
          obtain ⟨⟨r0, r1⟩, rf0, rf1⟩ := box2K HH9.out.b1
          obtain ⟨⟨t0, t1, t2⟩, tf0, tf1, tf2⟩ := box3 HH9.out.b2
          obtain ⟨⟨k0, k1⟩, _, _⟩ := box2K HH9.out.b3
          obtain ⟨⟨p0, p1, p2⟩, _, _, _⟩ := box3 HH9.out.b4

          refine (l3Down_any ep 1 (by omega) hv8 (show Ints w1.heap.size (.slice a2 15 c2) (vs.set 0 z8) w9 from HH9.out.r0) (show Seats w1.heap.size (.slice e2 n d2) ss w9 from HH9.out.r3) (show Wraps w6.heap.size (.slice (some ⟨w6.heap.size, 0, none⟩) 0 0) [] w9 from HH9.out.r2) hs9 (by simp)).mono ?_
          rintro e w10 ⟨v', ws', rfl, v10, hw10, g10⟩
          obtain ⟨va, vc, hvv⟩ := wrapsF v10
          subst hvv
          have HH10 := hidS (HH9.out.turn2 (r' := fW w6.heap.size (.slice va ws'.length vc) ws') g10 v10 rfl ⟨fun s hs => by
              simp only [List.mem_cons, List.not_mem_nil, or_false] at hs
              rcases hs with rfl | rfl | rfl <;> simp, fun p hp => by
              simp only [List.mem_cons, List.not_mem_nil, or_false] at hp
              rcases hp with rfl | rfl | rfl | rfl | rfl <;> simp [objType]⟩)
          have hw10' : ws'.length ≤ 2 := by simpa using hw10
          clear HH9 v10 g10 hw10
          clear o0 o1 o2 of0 of1 of2 r0 r1 rf0 rf1 t0 t1 t2 tf0 tf1 tf2 k0 k1 p0 p1 p2

          obtain ⟨⟨o0, o1, o2⟩, of0, of1, of2⟩ := box3 HH10.out.b0
          obtain ⟨⟨r0, r1⟩, rf0, rf1⟩ := box2K HH10.out.b1
          obtain ⟨⟨t0, t1, t2⟩, tf0, tf1, tf2⟩ := box3 HH10.out.b2
          obtain ⟨⟨k0, k1⟩, _, _⟩ := box2K HH10.out.b3
          obtain ⟨⟨p0, p1, p2⟩, _, _, _⟩ := box3 HH10.out.b4

          have HF := hidS (HH10.out.s300 (.int .i64 (wrap64 (ep + 1))))
          clear HH10
          go_wp2
          generalize w10.setCell ⟨w2.heap.size, 0, none⟩ (.int .i64 (wrap64 (ep + 1))) = wf at *
          clear o0 o1 o2 of0 of1 of2 r0 r1 rf0 rf1 t0 t1 t2 tf0 tf1 tf2 k0 k1 p0 p1 p2

          obtain ⟨⟨o0, o1, o2⟩, of0, of1, of2⟩ := box3 HF.out.b0
          obtain ⟨⟨r0, r1⟩, rf0, rf1⟩ := box2K HF.out.b1
          obtain ⟨⟨t0, t1, t2⟩, tf0, tf1, tf2⟩ := box3 HF.out.b2
          obtain ⟨⟨k0, k1⟩, _, _⟩ := box2K HF.out.b3
          obtain ⟨⟨p0, p1, p2⟩, _, _, _⟩ := box3 HF.out.b4

          have hne2 : w2.heap.size ≠ w.heap.size + 1 + 1 := (List.pairwise_cons.1 HF.out.nod).1 _ (.tail _ (.head _))
          have hne3 : w2.heap.size ≠ w.heap.size + 1 + 1 + 1 := (List.pairwise_cons.1 HF.out.nod).1 _ (.head _)
          have L0 := And.intro o0 (And.intro o1 o2)
          have LA := three_set L0 hne2 hne2 hne2 (.int .i64 (wrap64 (ep + 1))) (.slice a2 15 c2) (.slice e2 n d2)
          have LAB := two_set LA hne3 hne3 hne3 (.int .i64 (wrap64 (ep + 1))) (.slice va ws'.length vc)
          have LB := two_set L0 hne3 hne3 hne3 (.int .i64 (wrap64 (ep + 1))) (.slice va ws'.length vc)
          have LBA := three_set LB hne2 hne2 hne2 (.int .i64 (wrap64 (ep + 1))) (.slice a2 15 c2) (.slice e2 n d2)
          have L0 := drew3 L0
          have LA := drew3 LA
          have LAB := drew3 LAB
          have LB := drew3 LB
          have LBA := drew3 LBA
          go_region_held3 (fun W => W.cell? ⟨w2.heap.size, 0, none⟩ = some (.int .i64 (wrap64 (ep + 1))) ∧ W.cell? ⟨w2.heap.size, 1, none⟩ = some (.slice a2 15 c2) ∧ W.cell? ⟨w2.heap.size, 2, none⟩ = some (.slice e2 n d2))
            (first | with_reducible exact L0 | with_reducible exact LA | with_reducible exact LAB | with_reducible exact LB | with_reducible exact LBA)
            (fail)
          all_goals
            rename_i hHeld
            have HE := hidS ((((((HF.out.s320 (.int .i64 (wrap64 (ep + 1)))).s321 (.slice a2 15 c2)).s322 (.slice e2 n d2)).s210 (.int .i64 (wrap64 (ep + 1)))).s211 (.slice va ws'.length vc)).drew)
            clear hHeld HF L0 LA LAB LB LBA
            clear o0 o1 o2 of0 of1 of2 r0 r1 rf0 rf1 t0 t1 t2 tf0 tf1 tf2 k0 k1 p0 p1 p2
            generalize (((((wf.setCell ⟨w.heap.size + 1 + 1, 0, none⟩ (.int .i64 (wrap64 (ep + 1)))).setCell ⟨w.heap.size + 1 + 1, 1, none⟩ (.slice a2 15 c2)).setCell ⟨w.heap.size + 1 + 1, 2, none⟩ (.slice e2 n d2)).setCell ⟨w.heap.size + 1 + 1 + 1, 0, none⟩ (.int .i64 (wrap64 (ep + 1)))).setCell ⟨w.heap.size + 1 + 1 + 1, 1, none⟩ (.slice va ws'.length vc)).drew = WF at *
            go_wp2
            have HE' := HE.out
            obtain ⟨⟨z0, z1, z2⟩, _, _, _⟩ := box3 HE'.b2
            obtain ⟨⟨z3, z4⟩, _, _⟩ := box2K HE'.b1
            have kI : Ints w1.heap.size (.slice a2 15 c2) (vs.set 0 z8) WF := HE'.r0
            have kS : Seats w1.heap.size (.slice e2 n d2) ss WF := HE'.r3
            have kW : Wraps w6.heap.size (.slice va ws'.length vc) ws' WF := HE'.r2
            have kK : Keys (w6.heap.size + 1) (.slice (some ⟨w6.heap.size + 1, 0, none⟩) 0 0) [] WF := HE'.r1
            exact bodyPost_ret (v := .tuple #[svv (wrap64 (ep + 1)) (.slice a2 15 c2) (.slice e2 n d2), rvD (wrap64 (ep + 1)) (.slice va ws'.length vc), (.slice (some ⟨w6.heap.size + 1, 0, none⟩) 0 0), .int .i64 0]) (by simp [results, Try.results66, go_sem, z0, z1, z2, z3, z4]) rfl ⟨_, _, _, (vs.set 0 z8), ss, _, _, ws', _, [], 0, rfl, by omega, kI.mono hs1, kS.mono (by omega), by rw [HN.out]; omega, kW.mono (by omega), by omega, kK.mono (by omega), by simp, below_none HE'.bel, HOK.out⟩
end Go.Proofs.Ytjilbfohfgalkaa
/- Done of the model: it answers, in new memory, whatever it is given. -/
namespace Go.Proofs.Ytjilbfohfgalkaa
open Go.RowKit

theorem serverB_few {ep : Int} {vs : List Int} {ss : List (Int × Int)} (h : serverB ep vs ss = true) : ss.length ≤ 8 := by
  unfold serverB seatsB at h
  simp only [Bool.and_eq_true, decide_eq_true_eq] at h
  exact h.2.2.1
theorem four_rows {W : World} {Z A D E : Nat} {x y v u : Value} {xs : List Int} {ss : List (Int × Int)} {ws : List W4} {ks : List (Int × Int)} (h0 : Ints Z x xs W) (h1 : Seats A y ss W) (h2 : Wraps D v ws W) (h3 : Keys E u ks W) :
    (∀ s, s ∈ [fI Z x xs, fS A y ss, fW D v ws, fK E u ks] → s.on W) ∧ [fI Z x xs, fS A y ss, fW D v ws, fK E u ks].Pairwise fun r s => ∀ k, r.v.ownBlock = some k → s.v.ownBlock ≠ some k := by
  refine ⟨fun s hs => ?_, List.pairwise_cons.2 ⟨fun s hs => ?_, (three_rows h1 h2 h3).2⟩⟩
  · rcases List.mem_cons.1 hs with rfl | hs
    · exact h0
    · exact (three_rows h1 h2 h3).1 s hs
  · simp only [List.mem_cons, List.not_mem_nil, or_false] at hs
    rcases hs with rfl | rfl | rfl
    · exact rows_ne (r := fI Z x xs) (s := fS A y ss) h0 h1 (show (2 : TypeId) ≠ 90 by decide)
    · exact rows_ne (r := fI Z x xs) (s := fW D v ws) h0 h2 (show (2 : TypeId) ≠ 112 by decide)
    · exact rows_ne (r := fI Z x xs) (s := fK E u ks) h0 h3 (show (2 : TypeId) ≠ 36 by decide)

set_option maxRecDepth 100000 in
set_option maxHeartbeats 8000000 in
theorem specDone_any {B C : Nat} {x y : Value} {vs : List Int} {ss : List (Int × Int)} {w : World} (ep k m : Int) (hx : Ints B x vs w) (hy : Seats C y ss w) :
    Calls Try.prog 42 #[svv ep x y, kv k m] w fun e w' => DnOut w 9 (serverB ep vs ss = true) e w' := by
  have HX : Hid (∀ W, w.grownBy W none → Ints B x vs W) := fun W hg => hx.since (below_none hg)
  have HY : Hid (∀ W, w.grownBy W none → Seats C y ss W) := fun W hg => hy.since (below_none hg)
  have H1 := ((((Hex.start w (ex := noRow) (noRow_on w)).alloc (svb ep x y)).alloc (opb k m)).alloc (svb 0 (.slice none 0 0) (.slice none 0 0))).alloc (rbD 0 (.slice none 0 0))
  simp only [World.size_alloc] at H1
  have HH1 := hidS H1
  obtain ⟨⟨p0, p1, p2⟩, _, _, _⟩ := box3 H1.b3
  clear hx hy H1
  go_enter Try.func42, Try.ntmps42
  go_wp2_with fail
  generalize (((w.alloc (svb ep x y)).alloc (opb k m)).alloc (svb 0 (.slice none 0 0) (.slice none 0 0))).alloc (rbD 0 (.slice none 0 0)) = w1 at *
  refine (specServerOk_any ep (HX.out _ HH1.out.bel) (HY.out _ HH1.out.bel)).mono ?_
  rintro e w2 ⟨rfl, b2⟩
  have HH2 := hidS (HH1.out.since b2)
  clear HH1 b2 p0 p1 p2
  obtain ⟨⟨r0, r1⟩, rf0, rf1⟩ := box2K HH2.out.b0
  obtain ⟨⟨t0, t1, t2⟩, tf0, tf1, tf2⟩ := box3 HH2.out.b1
  obtain ⟨⟨k0, k1⟩, _, _⟩ := box2K HH2.out.b2
  obtain ⟨⟨p0, p1, p2⟩, _, _, _⟩ := box3 HH2.out.b3

  cases hok : serverB ep vs ss with
  | false =>
    have HE := hidS (((((HH2.out.s310 (.int .i64 0)).s311 (.slice none 0 0)).s312 (.slice none 0 0)).s200 (.int .i64 0)).s201 (.slice none 0 0))
    clear HH2
    go_wp2
    have HE' := HE.out
    generalize ((((w2.setCell ⟨w.heap.size + 1 + 1, 0, none⟩ (.int .i64 0)).setCell ⟨w.heap.size + 1 + 1, 1, none⟩ (.slice none 0 0)).setCell ⟨w.heap.size + 1 + 1, 2, none⟩ (.slice none 0 0)).setCell ⟨w.heap.size + 1 + 1 + 1, 0, none⟩ (.int .i64 0)).setCell ⟨w.heap.size + 1 + 1 + 1, 1, none⟩ (.slice none 0 0) = WF at HE' ⊢
    obtain ⟨⟨z0, z1, z2⟩, _, _, _⟩ := box3 HE'.b1
    obtain ⟨⟨z3, z4⟩, _, _⟩ := box2K HE'.b0
    exact bodyPost_ret (v := .tuple #[svv 0 (.slice none 0 0) (.slice none 0 0), rvD 0 (.slice none 0 0), (.slice none 0 0), .int .i64 1]) (by simp [results, Try.results42, go_sem, z0, z1, z2, z3, z4]) rfl ⟨0, _, _, [], [], 0, _, [], _, [], 1, rfl, by simp, World.ownsRow_nil _ _ _ _, World.ownsRow_nil _ _ _ _, by simp, World.ownsRow_nil _ _ _ _, by simp, World.ownsRow_nil _ _ _ _, by simp, below_none HE'.bel, fun h => by rw [hok] at h; cases h⟩
  | true =>
    have h8 := serverB_few hok
    have h15 := serverB_len hok
    have HOK := hidS hok
    clear hok
    go_wp2_with fail
    refine (l3Done_any ep k m h15 (HX.out _ HH2.out.bel) (HY.out _ HH2.out.bel) (by omega)).mono ?_
    rintro e w3 ⟨ep', x', y', vs', ss', re, v', ws', u', ks', code, rfl, l1, i3, s3, l2, v3, l3, u3, l4, b3, hok3⟩
    have HOK3 := hidS (hok3 HOK.out)
    clear hok3 HOK
    obtain ⟨xa, xc, hv1, _, _⟩ := i3.row
    obtain ⟨ya, yc, hv2, _, _⟩ := s3.row
    obtain ⟨va, vc, hv3⟩ := wrapsF v3
    obtain ⟨ua, uc, hv4, _, _⟩ := u3.row
    subst hv1 hv2 hv3 hv4
    have HH3 := hidS (HH2.out.adds b3 [fI w2.heap.size (.slice xa vs'.length xc) vs', fS w2.heap.size (.slice ya ss'.length yc) ss', fW w2.heap.size (.slice va ws'.length vc) ws', fK w2.heap.size (.slice ua ks'.length uc) ks'] (four_rows i3 s3 v3 u3).1 (fun s hs => by
        simp only [List.mem_cons, List.not_mem_nil, or_false] at hs
        rcases hs with rfl | rfl | rfl | rfl <;> exact Nat.le_refl _) (four_rows i3 s3 v3 u3).2)
    simp only [List.cons_append, List.nil_append] at HH3
    have hs2 : w.heap.size ≤ w2.heap.size := HH2.out.bel.size
    clear i3 s3 v3 u3 b3 HH2
    clear r0 r1 rf0 rf1 t0 t1 t2 tf0 tf1 tf2 k0 k1 p0 p1 p2

    obtain ⟨⟨r0, r1⟩, rf0, rf1⟩ := box2K HH3.out.b0
    obtain ⟨⟨t0, t1, t2⟩, tf0, tf1, tf2⟩ := box3 HH3.out.b1
    obtain ⟨⟨k0, k1⟩, _, _⟩ := box2K HH3.out.b2
    obtain ⟨⟨p0, p1, p2⟩, _, _, _⟩ := box3 HH3.out.b3
    have HE := hidS (((((HH3.out.s310 (.int .i64 ep')).s311 (.slice xa vs'.length xc)).s312 (.slice ya ss'.length yc)).s200 (.int .i64 re)).s201 (.slice va ws'.length vc))
    clear HH3
    go_wp2
    have HE' := HE.out
    generalize ((((w3.setCell ⟨w.heap.size + 1 + 1, 0, none⟩ (.int .i64 ep')).setCell ⟨w.heap.size + 1 + 1, 1, none⟩ (.slice xa vs'.length xc)).setCell ⟨w.heap.size + 1 + 1, 2, none⟩ (.slice ya ss'.length yc)).setCell ⟨w.heap.size + 1 + 1 + 1, 0, none⟩ (.int .i64 re)).setCell ⟨w.heap.size + 1 + 1 + 1, 1, none⟩ (.slice va ws'.length vc) = WF at HE' ⊢
    obtain ⟨⟨z0, z1, z2⟩, _, _, _⟩ := box3 HE'.b1
    obtain ⟨⟨z3, z4⟩, _, _⟩ := box2K HE'.b0
    have kI : Ints w2.heap.size (.slice xa vs'.length xc) vs' WF := HE'.r0
    have kS : Seats w2.heap.size (.slice ya ss'.length yc) ss' WF := HE'.r1
    have kW : Wraps w2.heap.size (.slice va ws'.length vc) ws' WF := HE'.r2
    have kK : Keys w2.heap.size (.slice ua ks'.length uc) ks' WF := HE'.r3
    exact bodyPost_ret (v := .tuple #[svv ep' (.slice xa vs'.length xc) (.slice ya ss'.length yc), rvD re (.slice va ws'.length vc), .slice ua ks'.length uc, .int .i64 code]) (by simp [results, Try.results42, go_sem, z0, z1, z2, z3, z4]) rfl ⟨_, _, _, vs', ss', _, _, ws', _, ks', code, rfl, l1, kI.mono hs2, kS.mono hs2, by omega, kW.mono hs2, l3, kK.mono hs2, l4, below_none HE'.bel, fun _ => HOK3.out⟩
end Go.Proofs.Ytjilbfohfgalkaa
/- A number fifteen times: math/bits.Mul and slices.Repeat where ServerNew calls them. -/
namespace Go.Proofs.Ytjilbfohfgalkaa
open Go.RowKit

theorem hidOf3 {p : Prop} (h : p) : Hid p := h
def rowV (n : Nat) : List Value := List.replicate n (.int .i64 1) ++ List.replicate (15 - n) (.int .i64 0)
theorem rowV_cell {W : World} {g n j : Nat} (h : W.heap[g]? = some (.cells (rowV n).toArray 2 (0, 0))) (hj : j < n) : W.cell? ⟨g, j, none⟩ = some (.int .i64 1) := by
  have : (rowV n)[j]? = some (.int .i64 1) := by
    unfold rowV
    rw [List.getElem?_append_left (by simpa using hj)]
    simp [hj]
  simp [World.cell?, h, this]
theorem ones_cells {W : World} {g n k : Nat} (h : W.heap[g]? = some (.cells (rowV n).toArray 2 (0, 0))) (hk : k ≤ n) : ∀ j v, (List.replicate k (Value.int .i64 1))[j]? = some v → W.cell? ((⟨g, 0, none⟩ : Addr).add j) = some v := by
  intro j v hv
  have hj : j < k := by
    have := (List.getElem?_eq_some_iff.1 hv).1
    simpa using this
  have e : (⟨g, 0, none⟩ : Addr).add j = ⟨g, j, none⟩ := by rw [Addr.add_mid, Nat.zero_add]
  rw [e, rowV_cell h (by omega)]
  simp [hj] at hv
  rw [hv]
theorem made_row {W : World} {B g : Nat} (h : W.ownsRow B 2 1 (.slice (some ⟨g, 0, none⟩) 15 15) 15 (madeCells (Value.int .i64 0).cells (15 * 1)).toList) : W.heap[g]? = some (.cells (rowV 0).toArray 2 (0, 0)) := by
  obtain ⟨_, h2⟩ := h
  rcases h2 with ⟨e, _⟩ | ⟨g', cap, cur, e, hb, hg, h1, h3, h4, h5⟩
  · cases e
  · injection e with e e1 e2
    injection e with e
    injection e with e
    subst e e2
    rw [hg]
    have hl : cur.toList = rowV 0 := by
      rw [List.take_of_length_le (by simp; omega)] at h5
      rw [h5]
      show (madeCells #[.int .i64 0] 15).toList = _
      rw [made_one]
      rfl
    have : cur = (rowV 0).toArray := by rw [← hl]
    rw [this]
theorem row_ints {W : World} {B g : Nat} (h : W.heap[g]? = some (.cells (rowV 15).toArray 2 (0, 0))) (hB : B ≤ g) : Ints B (.slice (some ⟨g, 0, none⟩) 15 15) (List.replicate 15 1) W :=
  ⟨rfl, .inr ⟨g, 15, (rowV 15).toArray, rfl, hB, h, by decide, by unfold maxLen; decide, rfl, rfl⟩⟩
theorem ones_one (k : Nat) : ∀ v ∈ List.replicate k (Value.int .i64 1), v.oneCell' = true := by
  intro v hv
  rw [(List.mem_replicate.1 hv).2]
  rfl

end Go.Proofs.Ytjilbfohfgalkaa
/- What the exact laws' helpers that mark and look at marks do: markSeatS, heldSeatS, markWrapS. -/
namespace Go.Proofs.Ytjilbfohfgalkaa
open Go.RowKit

def smarks (k : Int) (n : Nat) : List (Int × Int) := (List.range n).map fun (i : Nat) => (k + 2 * (i : Int), k + 2 * (i : Int) + 1)
theorem smarks_length (k : Int) (n : Nat) : (smarks k n).length = n := by simp [smarks]
theorem smarks_get (k : Int) (n i : Nat) (h : i < (smarks k n).length) : (smarks k n)[i] = (k + 2 * (i : Int), k + 2 * (i : Int) + 1) := by simp [smarks]
def partSM (k : Int) (xs : List (Int × Int)) (j : Nat) : List (Int × Int) := smarks k j ++ xs.drop j
theorem partSM_length (k : Int) (xs : List (Int × Int)) (j : Nat) (h : j ≤ xs.length) : (partSM k xs j).length = xs.length := by simp [partSM, smarks_length]; omega
theorem partSM_set (k : Int) (xs : List (Int × Int)) (j : Nat) (h : j < xs.length) : (partSM k xs j).set j (k + 2 * (j : Int), k + 2 * (j : Int) + 1) = partSM k xs (j + 1) := by
  unfold partSM
  rw [List.drop_eq_getElem_cons h]
  have : smarks k (j + 1) = smarks k j ++ [(k + 2 * (j : Int), k + 2 * (j : Int) + 1)] := by simp [smarks, List.range_succ]
  rw [this, List.append_assoc, List.set_append_right _ _ (by simp [smarks_length])]
  simp [smarks_length]
  rw [List.drop_eq_getElem_cons h, List.set_cons_zero]

end Go.Proofs.Ytjilbfohfgalkaa
/- Marks on servers; MembersOf of the program and of the model. -/
namespace Go.Proofs.Ytjilbfohfgalkaa
open Go.RowKit

end Go.Proofs.Ytjilbfohfgalkaa
/- ServerNew of the program and of the model; the walk of its exact law. -/
namespace Go.Proofs.Ytjilbfohfgalkaa
open Go.RowKit

theorem nil_seats (B : Nat) (w : World) : Seats B (.slice none 0 0) [] w := ⟨by simp [kcells], .inl ⟨rfl, rfl⟩⟩
theorem nil_ints2 (B : Nat) (w : World) : Ints B (.slice none 0 0) [] w := ⟨by simp, .inl ⟨rfl, rfl⟩⟩
theorem cell_one2 (W : World) (t : TypeId) (x : Value) : ∀ j u, [x][j]? = some u → (W.alloc (.cells #[x] t)).cell? ((⟨W.heap.size, 0, none⟩ : Addr).add j) = some u := by
  intro j u hu
  cases j with
  | zero => simp at hu; subst hu; simp [Addr.add]
  | succ j => simp at hu
theorem blkA2 {W W' : World} {o x : Obj} {R : Nat} {row : Option Nat} (hg : (W.alloc o).grownBy W' row) (h : W.heap[R]? = some x) (hne : row ≠ some R) : W'.heap[R]? = some x := by
  have hl := (Array.getElem?_eq_some_iff.1 h).1
  rw [hg.block R (by simp; omega) (fun e => hne e.symm), Below.heap_alloc _ _ _ hl]
  exact h
theorem ints_row2 {W : World} {B n : Nat} {v : Value} {ys : List Value} {xs : List Int} (h : W.ownsRow B 2 1 v n ys) (e : ys = xs.map (Value.int .i64)) (hn : xs.length = n) : ∃ a c, v = .slice a n c ∧ Ints B (.slice a n c) xs W := by
  subst e hn
  obtain ⟨a, c, hv, _, _⟩ := Ints.row (show Ints B v xs W from h)
  subst hv
  exact ⟨a, c, rfl, h⟩
theorem ints_lit2 {W : World} {B n : Nat} {v : Value} {xs : List Int} (h : Ints B v xs W) (hn : xs.length = n) (o : Obj) : (W.alloc o).ownsRow B 2 1 v n (xs.map (Value.int .i64)) := by
  subst hn
  exact World.ownsRow.alloc h o

set_option maxRecDepth 100000 in
set_option maxHeartbeats 2000000 in
theorem specServerNew_any (w : World) :
    Calls Try.prog 64 #[] w fun e w' => ∃ a c, e = .returned (svv 0 (.slice a 15 c) (.slice none 0 0)) ∧ SrvIs w.heap.size (.slice a 15 c) (.slice none 0 0) (List.replicate 15 1) [] w' ∧ Below w.heap.size w w' := by
  obtain ⟨i0, hi, hz0, hz1, hz2⟩ := info_parts infoI
  have hB0 := two_below w (svb 0 (.slice none 0 0) (.slice none 0 0)) (svb 0 (.slice none 0 0) (.slice none 0 0))
  have t0 : ((w.alloc (svb 0 (.slice none 0 0) (.slice none 0 0))).alloc (svb 0 (.slice none 0 0) (.slice none 0 0))).heap[w.heap.size]? = some (svb 0 (.slice none 0 0) (.slice none 0 0)) := by
    rw [Below.heap_alloc _ _ _ (by simp)]
    exact heap_alloc_new _ _
  have t1 : ((w.alloc (svb 0 (.slice none 0 0) (.slice none 0 0))).alloc (svb 0 (.slice none 0 0) (.slice none 0 0))).heap[w.heap.size + 1]? = some (svb 0 (.slice none 0 0) (.slice none 0 0)) := by
    have := heap_alloc_new (w.alloc (svb 0 (.slice none 0 0) (.slice none 0 0))) (svb 0 (.slice none 0 0) (.slice none 0 0))
    simpa using this
  have hs0 : ((w.alloc (svb 0 (.slice none 0 0) (.slice none 0 0))).alloc (svb 0 (.slice none 0 0) (.slice none 0 0))).heap.size = w.heap.size + 1 + 1 := by simp
  go_enter Try.func64, Try.ntmps64
  go_wp2
  generalize (w.alloc (svb 0 (.slice none 0 0) (.slice none 0 0))).alloc (svb 0 (.slice none 0 0) (.slice none 0 0)) = w1 at *
  go_loopw [2] (fun i wr => ∃ (k : Nat) (a : Option Addr) (c : Nat), i = .int .i64 (k : Int) ∧ k ≤ 15 ∧ wr.heap[w.heap.size]? = some (svb 0 (.slice none 0 0) (.slice none 0 0)) ∧ wr.heap[w.heap.size + 1]? = some (svb 0 (.slice a k c) (.slice none 0 0)) ∧ Hid (Ints (w.heap.size + 1 + 1) (.slice a k c) (List.replicate k 1) wr) ∧ Below w.heap.size w wr ∧ w.heap.size + 1 + 1 ≤ wr.heap.size) (fun i _ => 15 - (intOf i).toNat)
  case atStart => exact ⟨0, none, 0, rfl, by omega, t0, t1, nil_ints2 _ _, hB0, by omega⟩
  case round =>
    obtain ⟨k, a, c, rfl, hk, r0, r1, HI, hB, hsz⟩ := hrel
    clear t0 t1 hB0
    obtain ⟨⟨q0, q1, q2⟩, e0, e1, e2⟩ := box3 r1
    have hne : ∀ j, (Value.slice a k c).ownBlock = some j → w.heap.size + 1 + 1 ≤ j := fun j e => (HI.out.lt j e).1
    by_cases hlt : k < 15
    · go_wp2_with (at_builtin; refine wpList_append_own _ rfl _ _ 40 rfl (w.heap.size + 1 + 1) 2 i0 (.int .i64 0) 1 8 Try.underlying40 hi hz0 hz1 hz2 rfl (by decide) _ _ _ rfl (ints_lit2 (n := k) HI.out (by simp) _) ⟨wr.heap.size, 0, none⟩ 1 1 [.int .i64 1] rfl rfl (cell_one2 _ _ _) (by simp [Value.oneCell']) (by unfold maxLen; omega) (by omega) (by simp <;> omega) ?_; intro v' w8 hown' hgrow _; obtain ⟨a8, c8, hv', hI'⟩ := ints_row2 (xs := List.replicate k 1 ++ [1]) hown' (by simp) (by simp); subst hv'; have HI8 := hidOf' hI'; have s0 := blkA2 hgrow r0 (fun e => by have := hne _ e; omega); have s1 := blkA2 hgrow r1 (fun e => by have := hne _ e; omega); have hs8 := hgrow.size; simp only [World.size_alloc] at hs8; have HB8 : Hid (Below w.heap.size w w8) := (hB.alloc hB.size _).grown hgrow (by simp <;> omega) (fun k e => by have := hne _ e; omega); clear hown' hI' hgrow q0 q1 q2 e0 e1 e2 r0 r1 hB HI; obtain ⟨⟨q0, q1, q2⟩, e0, e1, e2⟩ := box3 s1)
      have A0 := hidOf' (blk' (k := w.heap.size) (grown_set w8 (w.heap.size + 1) 1 (.slice a8 (k + 1) c8)) s0 (by omega))
      have A1 := hidOf' (box3_set1 s1 (.slice a8 (k + 1) c8))
      have AI := hidOf' (HI8.out.kept (grown_set w8 (w.heap.size + 1) 1 (.slice a8 (k + 1) c8)) (fun j e e' => by cases e; have := (HI8.out.lt _ e').1; omega))
      have AB := hidOf' (below_set HB8.out (w.heap.size + 1) 1 (.slice a8 (k + 1) c8) (by omega) (by omega))
      go_roundw
      case rel => exact ⟨k + 1, a8, c8, by go_num, by omega, A0.out, A1.out, (by show Ints _ _ _ _; rw [List.replicate_succ']; exact AI.out), AB.out, by simp <;> omega⟩
      case measure => simp [intOf] <;> omega
    · obtain rfl : k = 15 := by omega
      obtain ⟨⟨p0, p1, p2⟩, f0, f1, f2⟩ := box3 r0
      have HF : Hid ((((wr.setCell ⟨w.heap.size, 0, none⟩ (.int .i64 0)).setCell ⟨w.heap.size, 1, none⟩ (.slice a 15 c)).setCell ⟨w.heap.size, 2, none⟩ (.slice none 0 0)).heap[w.heap.size]? = some (svb 0 (.slice a 15 c) (.slice none 0 0))) := box3_set2 (box3_set1 (box3_set0 r0 _) _) _
      have HB' : Hid (Below w.heap.size w (((wr.setCell ⟨w.heap.size, 0, none⟩ (.int .i64 0)).setCell ⟨w.heap.size, 1, none⟩ (.slice a 15 c)).setCell ⟨w.heap.size, 2, none⟩ (.slice none 0 0))) := ((hB.setCell (by simp) _).setCell (by simp) _).setCell (by simp) _
      have HK : Hid (Ints w.heap.size (.slice a 15 c) (List.replicate 15 1) (((wr.setCell ⟨w.heap.size, 0, none⟩ (.int .i64 0)).setCell ⟨w.heap.size, 1, none⟩ (.slice a 15 c)).setCell ⟨w.heap.size, 2, none⟩ (.slice none 0 0))) :=
        (((HI.out.mono (by omega)).kept (grown_set _ _ _ _) (fun k e e' => by cases e; have := hne _ e'; omega)).kept (grown_set _ _ _ _) (fun k e e' => by cases e; have := hne _ e'; omega)).kept (grown_set _ _ _ _) (fun k e e' => by cases e; have := hne _ e'; omega)
      clear r0 r1 HI
      go_wp2
      have bF := HF.out
      have gB := HB'.out
      have gK := HK.out
      clear HF HB' HK
      generalize ((wr.setCell ⟨w.heap.size, 0, none⟩ (.int .i64 0)).setCell ⟨w.heap.size, 1, none⟩ (.slice a 15 c)).setCell ⟨w.heap.size, 2, none⟩ (.slice none 0 0) = WF at bF gB gK ⊢
      obtain ⟨⟨z0, z1, z2⟩, _, _, _⟩ := box3 bF
      exact bodyPost_ret (v := svv 0 (.slice a 15 c) (.slice none 0 0)) (by simp [results, Try.results64, go_sem, z0, z1, z2]) rfl ⟨a, c, rfl, ⟨gK, nil_seats _ _, fun k _ e => by cases e⟩, gB⟩

end Go.Proofs.Ytjilbfohfgalkaa
