
/- What is known of a world while a law is walked, in one bundle: nothing that was there has turned, cells hold what they hold, rows of the call's own lie apart from one another. -/
import Derived.Test.YtplinjepeahahaaRegS
import Derived.Laws.AppendOwn
namespace Go.Proofs.Ytplinjepeahahaa
open Go.RowKit

/-- A row of the call's own. -/
structure RowF where
  B : Nat
  t : TypeId
  sz : Nat
  v : Value
  n : Nat
  xs : List Value
/-- It lies in this world. -/
def RowF.on (r : RowF) (W : World) : Prop := W.ownsRow r.B r.t r.sz r.v r.n r.xs

/-- The bundle. -/
structure Kit (w0 : World) (cs : List (Addr × Value)) (rs : List RowF) (W : World) : Prop where
  bel : Below w0.heap.size w0 W
  cell : ∀ p, p ∈ cs → W.cell? p.1 = some p.2
  row : ∀ r, r ∈ rs → r.on W
  fresh : ∀ r, r ∈ rs → w0.heap.size ≤ r.B
  apart : rs.Pairwise fun r s => ∀ k, r.v.ownBlock = some k → s.v.ownBlock ≠ some k
  off : ∀ p, p ∈ cs → ∀ r, r ∈ rs → r.v.ownBlock ≠ some p.1.block

theorem RowF.lt {r : RowF} {W : World} (h : r.on W) : ∀ k, r.v.ownBlock = some k → r.B ≤ k ∧ k < W.heap.size := World.ownsRow.lt h
theorem RowF.since {r : RowF} {W W' : World} (h : r.on W) (hb : Below W.heap.size W W') : r.on W' := by
  refine ⟨h.1, ?_⟩
  rcases h.2 with hn | ⟨g, cap, cur, e, hb', hg, rest⟩
  · exact .inl hn
  · refine .inr ⟨g, cap, cur, e, hb', ?_, rest⟩
    rw [hb.block g (Array.getElem?_eq_some_iff.1 hg).1]
    exact hg
theorem RowF.kept {r : RowF} {W W' : World} {row : Option Nat} (h : r.on W) (hg : W.grownBy W' row) (hne : ∀ k, row = some k → r.v.ownBlock ≠ some k) : r.on W' := by
  refine World.ownsRow.kept h hg ?_
  cases row with
  | none => cases e : r.v.ownBlock <;> simp
  | some k => exact .inr (hne k rfl)

theorem Kit.start {w0 W : World} {cs : List (Addr × Value)} (hb : Below w0.heap.size w0 W) (hc : ∀ p, p ∈ cs → W.cell? p.1 = some p.2) : Kit w0 cs [] W :=
  ⟨hb, hc, (fun _ h => (by cases h)), (fun _ h => (by cases h)), .nil, fun _ _ _ h => (by cases h)⟩
theorem Kit.since {w0 W W' : World} {cs : List (Addr × Value)} {rs : List RowF} (K : Kit w0 cs rs W) (hb : Below W.heap.size W W') : Kit w0 cs rs W' :=
  ⟨K.bel.trans (hb.mono K.bel.size), fun p h => cell_since (K.cell p h) hb, fun r h => RowF.since (K.row r h) hb, K.fresh, K.apart, K.off⟩
theorem Kit.drew {w0 W : World} {cs : List (Addr × Value)} {rs : List RowF} (K : Kit w0 cs rs W) : Kit w0 cs rs W.drew := K.since (Below.refl _ _).drew
theorem Kit.drewN {w0 W : World} {cs : List (Addr × Value)} {rs : List RowF} (K : Kit w0 cs rs W) (n : Nat) : Kit w0 cs rs (W.drewN n) := K.since ⟨rfl, rfl, rfl, Nat.le_refl _, fun _ _ => rfl⟩
/-- Fewer. -/
theorem Kit.sub {w0 W : World} {cs cs' : List (Addr × Value)} {rs rs' : List RowF} (K : Kit w0 cs rs W) (hc : ∀ p, p ∈ cs' → p ∈ cs) (hr : rs'.Sublist rs) : Kit w0 cs' rs' W :=
  ⟨K.bel, fun p h => K.cell p (hc p h), fun r h => K.row r (hr.subset h), fun r h => K.fresh r (hr.subset h), K.apart.sublist hr, fun p h r h' => K.off p (hc p h) r (hr.subset h')⟩
/-- A new row. -/
theorem Kit.add {w0 W W' : World} {cs : List (Addr × Value)} {rs : List RowF} {r : RowF} (K : Kit w0 cs rs W) (hb : Below W.heap.size W W') (h : r.on W') (hB : W.heap.size ≤ r.B) : Kit w0 cs (r :: rs) W' := by
  have K' := K.since hb
  refine ⟨K'.bel, K'.cell, ?_, ?_, ?_, ?_⟩
  · intro s hs
    rcases List.mem_cons.1 hs with rfl | hs
    · exact h
    · exact K'.row s hs
  · intro s hs
    rcases List.mem_cons.1 hs with rfl | hs
    · exact Nat.le_trans K.bel.size hB
    · exact K'.fresh s hs
  · refine List.pairwise_cons.2 ⟨fun s hs k e e' => ?_, K'.apart⟩
    have h1 := (h.lt k e).1
    have h2 := ((K.row s hs).lt k e').2
    omega
  · intro p hp s hs e
    rcases List.mem_cons.1 hs with rfl | hs
    · have h1 := (h.lt _ e).1
      have h2 := World.block_lt_of_cell? W p.1 (K.cell p hp)
      omega
    · exact K'.off p hp s hs e
/-- Two new rows of one call. -/
theorem Kit.add2 {w0 W W' : World} {cs : List (Addr × Value)} {rs : List RowF} {r s : RowF} (K : Kit w0 cs rs W) (hb : Below W.heap.size W W') (h : r.on W') (h' : s.on W') (hB : W.heap.size ≤ r.B) (hB' : W.heap.size ≤ s.B)
    (hd : ∀ k, r.v.ownBlock = some k → s.v.ownBlock ≠ some k) : Kit w0 cs (r :: s :: rs) W' := by
  have K1 := K.add hb h' hB'
  have K2 := K.add hb h hB
  refine ⟨K1.bel, K1.cell, ?_, ?_, ?_, ?_⟩
  · intro x hx
    rcases List.mem_cons.1 hx with rfl | hx
    · exact h
    · exact K1.row x hx
  · intro x hx
    rcases List.mem_cons.1 hx with rfl | hx
    · exact K2.fresh _ (.head _)
    · exact K1.fresh x hx
  · refine List.pairwise_cons.2 ⟨fun x hx => ?_, K1.apart⟩
    rcases List.mem_cons.1 hx with rfl | hx
    · exact hd
    · exact (List.pairwise_cons.1 K2.apart).1 x hx
  · intro p hp x hx
    rcases List.mem_cons.1 hx with rfl | hx
    · exact K2.off p hp _ (.head _)
    · exact K1.off p hp x hx
/-- New cells, at or beyond the world's end. -/
theorem Kit.cells {w0 W W' : World} {cs ds : List (Addr × Value)} {rs : List RowF} (K : Kit w0 cs rs W) (hb : Below W.heap.size W W') (hc : ∀ p, p ∈ ds → W'.cell? p.1 = some p.2) (hn : ∀ p, p ∈ ds → W.heap.size ≤ p.1.block) : Kit w0 (ds ++ cs) rs W' := by
  have K' := K.since hb
  refine ⟨K'.bel, ?_, K'.row, K'.fresh, K'.apart, ?_⟩
  · intro p hp
    rcases List.mem_append.1 hp with h | h
    · exact hc p h
    · exact K'.cell p h
  · intro p hp r hr e
    rcases List.mem_append.1 hp with h | h
    · have h1 := hn p h
      have h2 := ((K.row r hr).lt _ e).2
      omega
    · exact K'.off p h r hr e
/-- A row written over. -/
theorem Kit.mark {w0 W W' : World} {cs : List (Addr × Value)} {pre post : List RowF} {r r' : RowF} (K : Kit w0 cs (pre ++ r :: post) W) (hg : W.grownBy W' r.v.ownBlock) (h : r'.on W') (hv : r'.v = r.v) (hB : r'.B = r.B) : Kit w0 cs (pre ++ r' :: post) W' := by
  have hmem : ∀ s, s ∈ pre ++ r' :: post → s = r' ∨ (s ∈ pre ∨ s ∈ post) := fun s hs => by
    rcases List.mem_append.1 hs with hs | hs
    · exact .inr (.inl hs)
    · rcases List.mem_cons.1 hs with hs | hs
      · exact .inl hs
      · exact .inr (.inr hs)
  have hin : ∀ s, (s ∈ pre ∨ s ∈ post) → s ∈ pre ++ r :: post := fun s hs => by
    rcases hs with hs | hs
    · exact List.mem_append_left _ hs
    · exact List.mem_append_right _ (.tail _ hs)
  have hmid : r ∈ pre ++ r :: post := List.mem_append_right _ (.head _)
  have hap := List.pairwise_append.1 K.apart
  have hap2 := List.pairwise_cons.1 hap.2.1
  have hdis : ∀ s, (s ∈ pre ∨ s ∈ post) → ∀ k, r.v.ownBlock = some k → s.v.ownBlock ≠ some k := fun s hs k e e' => by
    rcases hs with hs | hs
    · exact hap.2.2 s hs r (.head _) k e' e
    · exact hap2.1 s hs k e e'
  refine ⟨K.bel.grown hg K.bel.size (fun k e => Nat.le_trans (K.fresh r hmid) ((K.row r hmid).lt k e).1), ?_, ?_, ?_, ?_, ?_⟩
  · exact fun p hp => hg.cell (K.cell p hp) (fun e => K.off p hp r hmid e.symm)
  · intro s hs
    rcases hmem s hs with rfl | hs
    · exact h
    · exact RowF.kept (K.row s (hin s hs)) hg (hdis s hs)
  · intro s hs
    rcases hmem s hs with rfl | hs
    · rw [hB]
      exact K.fresh r hmid
    · exact K.fresh s (hin s hs)
  · refine List.pairwise_append.2 ⟨hap.1, List.pairwise_cons.2 ⟨fun s hs => by rw [hv]; exact hap2.1 s hs, hap2.2⟩, fun s hs x hx => ?_⟩
    rcases List.mem_cons.1 hx with rfl | hx
    · rw [hv]
      exact hap.2.2 s hs r (.head _)
    · exact hap.2.2 s hs x (.tail _ hx)
  · intro p hp s hs
    rcases hmem s hs with rfl | hs
    · rw [hv]
      exact K.off p hp r hmid
    · exact K.off p hp s (hin s hs)
/-- A row that is let go, and written over. -/
theorem Kit.lose {w0 W W' : World} {cs : List (Addr × Value)} {rs : List RowF} {r : RowF} (K : Kit w0 cs (r :: rs) W) (hg : W.grownBy W' r.v.ownBlock) : Kit w0 cs rs W' := by
  have hap := List.pairwise_cons.1 K.apart
  refine ⟨K.bel.grown hg K.bel.size (fun k e => Nat.le_trans (K.fresh r (.head _)) ((K.row r (.head _)).lt k e).1), ?_, ?_, fun s hs => K.fresh s (.tail _ hs), hap.2, fun p hp s hs => K.off p hp s (.tail _ hs)⟩
  · exact fun p hp => hg.cell (K.cell p hp) (fun e => K.off p hp r (.head _) e.symm)
  · exact fun s hs => RowF.kept (K.row s (.tail _ hs)) hg (fun k e e' => hap.1 s hs k e e')
/-- The row at a place comes first. -/
theorem Kit.front {w0 W : World} {cs : List (Addr × Value)} {pre post : List RowF} {r : RowF} (K : Kit w0 cs (pre ++ r :: post) W) : Kit w0 cs (r :: (pre ++ post)) W := by
  have hap := List.pairwise_append.1 K.apart
  have hap2 := List.pairwise_cons.1 hap.2.1
  have hin : ∀ s, s ∈ r :: (pre ++ post) → s ∈ pre ++ r :: post := fun s hs => by
    rcases List.mem_cons.1 hs with rfl | hs
    · exact List.mem_append_right _ (.head _)
    · rcases List.mem_append.1 hs with hs | hs
      · exact List.mem_append_left _ hs
      · exact List.mem_append_right _ (.tail _ hs)
  refine ⟨K.bel, K.cell, fun s hs => K.row s (hin s hs), fun s hs => K.fresh s (hin s hs), List.pairwise_cons.2 ⟨fun s hs k e e' => ?_, List.pairwise_append.2 ⟨hap.1, hap2.2, fun s hs x hx => hap.2.2 s hs x (.tail _ hx)⟩⟩, fun p hp s hs => K.off p hp s (hin s hs)⟩
  rcases List.mem_append.1 hs with hs | hs
  · exact hap.2.2 s hs r (.head _) k e' e
  · exact hap2.1 s hs k e e'
end Go.Proofs.Ytplinjepeahahaa
