/- What a call holds while it is walked, in one bundle: nothing that was there has turned; blocks of its own hold what they hold; rows of its own lie apart from them and from one another. -/
import Derived.Test.YtapmgbnhobpahaaGreatDoorPart5
import Derived.Test.YtapmgbnhobpahaaGreatDoorPart4
import Derived.Test.YtapmgbnhobpahaaGreatDoorPart1
import Derived.Deep.RegionHeld3
namespace Go.Proofs.YtapmgbnhobpahaaGreatDoor
open Go.RowKit

def objType : Obj → Option TypeId
  | .cells _ t _ => some t
  | _ => none

structure Home (w0 : World) (bs : List (Nat × Obj)) (rs : List RowF) (W : World) : Prop where
  bel : Below w0.heap.size w0 W
  box : ∀ p, p ∈ bs → W.heap[p.1]? = some p.2
  new : ∀ p, p ∈ bs → w0.heap.size ≤ p.1
  nod : bs.Pairwise fun p q => p.1 ≠ q.1
  row : ∀ r, r ∈ rs → r.on W
  fresh : ∀ r, r ∈ rs → w0.heap.size ≤ r.B
  apart : rs.Pairwise fun r s => ∀ k, r.v.ownBlock = some k → s.v.ownBlock ≠ some k
  off : ∀ p, p ∈ bs → ∀ r, r ∈ rs → r.v.ownBlock ≠ some p.1

theorem Home.start (w : World) : Home w [] [] w := ⟨Below.refl _ _, (fun _ h => (by cases h)), (fun _ h => (by cases h)), .nil, (fun _ h => (by cases h)), (fun _ h => (by cases h)), .nil, fun _ h => (by cases h)⟩
theorem Home.since {w0 W W' : World} {bs : List (Nat × Obj)} {rs : List RowF} (H : Home w0 bs rs W) (hb : Below W.heap.size W W') : Home w0 bs rs W' :=
  ⟨H.bel.trans (hb.mono H.bel.size), fun p h => blkSince (H.box p h) hb, H.new, H.nod, fun r h => RowF.since (H.row r h) hb, H.fresh, H.apart, H.off⟩
theorem Home.drew {w0 W : World} {bs : List (Nat × Obj)} {rs : List RowF} (H : Home w0 bs rs W) : Home w0 bs rs W.drew := H.since (Below.refl _ _).drew
theorem Home.drewN {w0 W : World} {bs : List (Nat × Obj)} {rs : List RowF} (H : Home w0 bs rs W) (n : Nat) : Home w0 bs rs (W.drewN n) := H.since ⟨rfl, rfl, rfl, Nat.le_refl _, fun _ _ => rfl⟩
theorem Home.sub {w0 W : World} {bs bs' : List (Nat × Obj)} {rs rs' : List RowF} (H : Home w0 bs rs W) (hc : bs'.Sublist bs) (hr : rs'.Sublist rs) : Home w0 bs' rs' W :=
  ⟨H.bel, fun p h => H.box p (hc.subset h), fun p h => H.new p (hc.subset h), H.nod.sublist hc, fun r h => H.row r (hr.subset h), fun r h => H.fresh r (hr.subset h), H.apart.sublist hr, fun p h r h' => H.off p (hc.subset h) r (hr.subset h')⟩
/-- A new block. -/
theorem Home.alloc {w0 W : World} {bs : List (Nat × Obj)} {rs : List RowF} (H : Home w0 bs rs W) (o : Obj) : Home w0 ((W.heap.size, o) :: bs) rs (W.alloc o) := by
  have hb : Below W.heap.size W (W.alloc o) := (Below.refl _ _).alloc (Nat.le_refl _) o
  have H' := H.since hb
  refine ⟨H'.bel, ?_, ?_, List.pairwise_cons.2 ⟨fun p hp e => ?_, H'.nod⟩, H'.row, H'.fresh, H'.apart, ?_⟩
  · intro p hp
    rcases List.mem_cons.1 hp with rfl | hp
    · exact heap_alloc_new W o
    · exact H'.box p hp
  · intro p hp
    rcases List.mem_cons.1 hp with rfl | hp
    · exact H.bel.size
    · exact H'.new p hp
  · have := blkLt (H.box p hp)
    dsimp only at e
    omega
  · intro p hp r hr e
    rcases List.mem_cons.1 hp with rfl | hp
    · have := ((H.row r hr).lt _ e).2
      dsimp only at this
      omega
    · exact H'.off p hp r hr e
/-- A new row. -/
theorem Home.add {w0 W W' : World} {bs : List (Nat × Obj)} {rs : List RowF} {r : RowF} (H : Home w0 bs rs W) (hb : Below W.heap.size W W') (h : r.on W') (hB : W.heap.size ≤ r.B) : Home w0 bs (r :: rs) W' := by
  have H' := H.since hb
  refine ⟨H'.bel, H'.box, H'.new, H'.nod, ?_, ?_, List.pairwise_cons.2 ⟨fun s hs k e e' => ?_, H'.apart⟩, ?_⟩
  · intro s hs
    rcases List.mem_cons.1 hs with rfl | hs
    · exact h
    · exact H'.row s hs
  · intro s hs
    rcases List.mem_cons.1 hs with rfl | hs
    · exact Nat.le_trans H.bel.size hB
    · exact H'.fresh s hs
  · have h1 := (h.lt k e).1
    have h2 := ((H.row s hs).lt k e').2
    omega
  · intro p hp s hs e
    rcases List.mem_cons.1 hs with rfl | hs
    · have h1 := (h.lt _ e).1
      have h2 := blkLt (H.box p hp)
      omega
    · exact H'.off p hp s hs e
theorem Home.add2 {w0 W W' : World} {bs : List (Nat × Obj)} {rs : List RowF} {r s : RowF} (H : Home w0 bs rs W) (hb : Below W.heap.size W W') (h : r.on W') (h' : s.on W') (hB : W.heap.size ≤ r.B) (hB' : W.heap.size ≤ s.B)
    (hd : ∀ k, r.v.ownBlock = some k → s.v.ownBlock ≠ some k) : Home w0 bs (r :: s :: rs) W' := by
  have H1 := H.add hb h' hB'
  have H2 := H.add hb h hB
  refine ⟨H1.bel, H1.box, H1.new, H1.nod, ?_, ?_, List.pairwise_cons.2 ⟨fun x hx => ?_, H1.apart⟩, ?_⟩
  · intro x hx
    rcases List.mem_cons.1 hx with rfl | hx
    · exact h
    · exact H1.row x hx
  · intro x hx
    rcases List.mem_cons.1 hx with rfl | hx
    · exact H2.fresh _ (.head _)
    · exact H1.fresh x hx
  · rcases List.mem_cons.1 hx with rfl | hx
    · exact hd
    · exact (List.pairwise_cons.1 H2.apart).1 x hx
  · intro p hp x hx
    rcases List.mem_cons.1 hx with rfl | hx
    · exact H2.off p hp _ (.head _)
    · exact H1.off p hp x hx
/-- A store into a block of one's own. -/
theorem Home.set {w0 W : World} {pre post : List (Nat × Obj)} {rs : List RowF} {p j : Nat} {o o' : Obj} {x : Value} (H : Home w0 (pre ++ (p, o) :: post) rs W) (ho : (W.setCell ⟨p, j, none⟩ x).heap[p]? = some o') : Home w0 (pre ++ (p, o') :: post) rs (W.setCell ⟨p, j, none⟩ x) := by
  have hmid : (p, o) ∈ pre ++ (p, o) :: post := List.mem_append_right _ (.head _)
  have hnd := List.pairwise_append.1 H.nod
  have hnd2 := List.pairwise_cons.1 hnd.2.1
  have hg : W.grownBy (W.setCell ⟨p, j, none⟩ x) (some p) := ⟨rfl, rfl, rfl, by simp, fun k _ hne => by simp [World.setCell, Array.getElem?_modify, show p ≠ k from fun e => hne (by rw [e])]⟩
  have hmem : ∀ q, q ∈ pre ++ (p, o') :: post → q = (p, o') ∨ (q ∈ pre ++ (p, o) :: post ∧ q.1 ≠ p) := fun q hq => by
    rcases List.mem_append.1 hq with hq | hq
    · exact .inr ⟨List.mem_append_left _ hq, hnd.2.2 q hq (p, o) (.head _)⟩
    · rcases List.mem_cons.1 hq with rfl | hq
      · exact .inl rfl
      · exact .inr ⟨List.mem_append_right _ (.tail _ hq), fun e => hnd2.1 q hq e.symm⟩
  refine ⟨H.bel.grown hg H.bel.size (fun k e => by cases e; exact H.new _ hmid), ?_, ?_, ?_, ?_, H.fresh, H.apart, ?_⟩
  · intro q hq
    rcases hmem q hq with rfl | ⟨hq, hne⟩
    · exact ho
    · rw [hg.block q.1 (blkLt (H.box q hq)) (fun e => hne (by cases e; rfl))]
      exact H.box q hq
  · intro q hq
    rcases hmem q hq with rfl | ⟨hq, _⟩
    · exact H.new (p, o) hmid
    · exact H.new q hq
  · refine List.pairwise_append.2 ⟨hnd.1, List.pairwise_cons.2 ⟨fun q hq => hnd2.1 q hq, hnd2.2⟩, fun q hq y hy => ?_⟩
    rcases List.mem_cons.1 hy with rfl | hy
    · exact hnd.2.2 q hq (p, o) (.head _)
    · exact hnd.2.2 q hq y (.tail _ hy)
  · exact fun r hr => RowF.kept (H.row r hr) hg (fun k e e' => by cases e; exact H.off _ hmid r hr e')
  · intro q hq r hr
    rcases hmem q hq with rfl | ⟨hq, _⟩
    · exact H.off (p, o) hmid r hr
    · exact H.off q hq r hr
/-- A row written over, or grown: its new place is its old one, or it is of a type that nothing else has. -/
theorem Home.turn {w0 W W' : World} {bs : List (Nat × Obj)} {pre post : List RowF} {r r' : RowF} (H : Home w0 bs (pre ++ r :: post) W) (hg : W.grownBy W' r.v.ownBlock) (h : r'.on W') (hB : r'.B = r.B)
    (hd : r'.v.ownBlock = r.v.ownBlock ∨ ((∀ s, s ∈ pre ++ post → s.t ≠ r'.t) ∧ ∀ p, p ∈ bs → objType p.2 ≠ some r'.t)) : Home w0 bs (pre ++ r' :: post) W' := by
  have hmid : r ∈ pre ++ r :: post := List.mem_append_right _ (.head _)
  have hap := List.pairwise_append.1 H.apart
  have hap2 := List.pairwise_cons.1 hap.2.1
  have hin : ∀ s, s ∈ pre ++ post → s ∈ pre ++ r :: post := fun s hs => by
    rcases List.mem_append.1 hs with hs | hs
    · exact List.mem_append_left _ hs
    · exact List.mem_append_right _ (.tail _ hs)
  have hdis : ∀ s, s ∈ pre ++ post → ∀ k, r.v.ownBlock = some k → s.v.ownBlock ≠ some k := fun s hs k e e' => by
    rcases List.mem_append.1 hs with hs | hs
    · exact hap.2.2 s hs r (.head _) k e' e
    · exact hap2.1 s hs k e e'
  have hbox : ∀ p, p ∈ bs → W'.heap[p.1]? = some p.2 := fun p hp => by
    rw [hg.block p.1 (blkLt (H.box p hp)) (fun e => H.off p hp r hmid e.symm)]
    exact H.box p hp
  have hrow : ∀ s, s ∈ pre ++ post → s.on W' := fun s hs => RowF.kept (H.row s (hin s hs)) hg (hdis s hs)
  have hat : ∀ {s : RowF} {k : Nat}, s.on W' → s.v.ownBlock = some k → ∃ cur, W'.heap[k]? = some (.cells cur s.t (0, 0)) := fun {s k} hs e => by
    rcases hs.2 with ⟨hv, _⟩ | ⟨g, cap, cur, hv, _, hgk, _⟩
    · rw [hv] at e
      simp [Value.ownBlock] at e
    · rw [hv] at e
      simp [Value.ownBlock] at e
      subst e
      exact ⟨cur, hgk⟩
  have hdis' : ∀ s, s ∈ pre ++ post → ∀ k, r'.v.ownBlock = some k → s.v.ownBlock ≠ some k := fun s hs k e e' => by
    rcases hd with hd | ⟨hd, _⟩
    · rw [hd] at e
      exact hdis s hs k e e'
    · obtain ⟨c1, h1⟩ := hat h e
      obtain ⟨c2, h2⟩ := hat (hrow s hs) e'
      rw [h1] at h2
      injection h2 with h2
      injection h2 with _ h2 _
      exact hd s hs h2.symm
  have hmem : ∀ s, s ∈ pre ++ r' :: post → s = r' ∨ s ∈ pre ++ post := fun s hs => by
    rcases List.mem_append.1 hs with hs | hs
    · exact .inr (List.mem_append_left _ hs)
    · rcases List.mem_cons.1 hs with hs | hs
      · exact .inl hs
      · exact .inr (List.mem_append_right _ hs)
  refine ⟨H.bel.grown hg H.bel.size (fun k e => Nat.le_trans (H.fresh r hmid) ((H.row r hmid).lt k e).1), hbox, H.new, H.nod, ?_, ?_, ?_, ?_⟩
  · intro s hs
    rcases hmem s hs with rfl | hs
    · exact h
    · exact hrow s hs
  · intro s hs
    rcases hmem s hs with rfl | hs
    · rw [hB]
      exact H.fresh r hmid
    · exact H.fresh s (hin s hs)
  · refine List.pairwise_append.2 ⟨hap.1, List.pairwise_cons.2 ⟨fun s hs => hdis' s (List.mem_append_right _ hs), hap2.2⟩, fun s hs x hx => ?_⟩
    rcases List.mem_cons.1 hx with rfl | hx
    · exact fun k e e' => hdis' s (List.mem_append_left _ hs) k e' e
    · exact hap.2.2 s hs x (.tail _ hx)
  · intro p hp s hs e
    rcases hmem s hs with rfl | hs
    · rcases hd with hd | ⟨_, hd⟩
      · rw [hd] at e
        exact H.off p hp r hmid e
      · obtain ⟨c1, h1⟩ := hat h e
        rw [hbox p hp] at h1
        have h3 : p.2 = .cells c1 s.t (0, 0) := by injection h1
        exact hd p hp (by rw [h3]; rfl)
    · exact H.off p hp s (hin s hs) e
end Go.Proofs.YtapmgbnhobpahaaGreatDoor
/- The bundle's blocks and rows by their places. -/
namespace Go.Proofs.YtapmgbnhobpahaaGreatDoor
open Go.RowKit

theorem Home.b0 {w0 W : World} {bs : List (Nat × Obj)} {rs : List RowF} {p : Nat} {o : Obj} (H : Home w0 ((p, o) :: bs) rs W) : W.heap[p]? = some o := H.box (p, o) (.head _)
theorem Home.p0 {w0 W : World} {bs : List (Nat × Obj)} {rs : List RowF} {p : Nat} {o : Obj} (H : Home w0 ((p, o) :: bs) rs W) : w0.heap.size ≤ p := H.new (p, o) (.head _)
theorem Home.set0 {w0 W : World} {bs : List (Nat × Obj)} {rs : List RowF} {p j : Nat} {o o' : Obj} {x : Value} (H : Home w0 ((p, o) :: bs) rs W) (ho : (W.setCell ⟨p, j, none⟩ x).heap[p]? = some o') : Home w0 ((p, o') :: bs) rs (W.setCell ⟨p, j, none⟩ x) := Home.set (pre := []) H ho
theorem Home.s200 {w0 W : World} {bs : List (Nat × Obj)} {rs : List RowF} {p : Nat} {u v : Value} {t : TypeId} (H : Home w0 ((p, .cells #[u, v] t) :: bs) rs W) (y : Value) : Home w0 ((p, .cells #[y, v] t) :: bs) rs (W.setCell ⟨p, 0, none⟩ y) := H.set0 (by simp [World.setCell, Array.getElem?_modify, H.b0])
theorem Home.s201 {w0 W : World} {bs : List (Nat × Obj)} {rs : List RowF} {p : Nat} {u v : Value} {t : TypeId} (H : Home w0 ((p, .cells #[u, v] t) :: bs) rs W) (y : Value) : Home w0 ((p, .cells #[u, y] t) :: bs) rs (W.setCell ⟨p, 1, none⟩ y) := H.set0 (by simp [World.setCell, Array.getElem?_modify, H.b0])
theorem Home.s300 {w0 W : World} {bs : List (Nat × Obj)} {rs : List RowF} {p : Nat} {u v x : Value} {t : TypeId} (H : Home w0 ((p, .cells #[u, v, x] t) :: bs) rs W) (y : Value) : Home w0 ((p, .cells #[y, v, x] t) :: bs) rs (W.setCell ⟨p, 0, none⟩ y) := H.set0 (by simp [World.setCell, Array.getElem?_modify, H.b0])
theorem Home.s301 {w0 W : World} {bs : List (Nat × Obj)} {rs : List RowF} {p : Nat} {u v x : Value} {t : TypeId} (H : Home w0 ((p, .cells #[u, v, x] t) :: bs) rs W) (y : Value) : Home w0 ((p, .cells #[u, y, x] t) :: bs) rs (W.setCell ⟨p, 1, none⟩ y) := H.set0 (by simp [World.setCell, Array.getElem?_modify, H.b0])
theorem Home.s302 {w0 W : World} {bs : List (Nat × Obj)} {rs : List RowF} {p : Nat} {u v x : Value} {t : TypeId} (H : Home w0 ((p, .cells #[u, v, x] t) :: bs) rs W) (y : Value) : Home w0 ((p, .cells #[u, v, y] t) :: bs) rs (W.setCell ⟨p, 2, none⟩ y) := H.set0 (by simp [World.setCell, Array.getElem?_modify, H.b0])
theorem Home.dropb0 {w0 W : World} {bs : List (Nat × Obj)} {rs : List RowF} {p : Nat × Obj} (H : Home w0 (p :: bs) rs W) : Home w0 (bs) rs W := H.sub (.cons _ (List.Sublist.refl _)) (List.Sublist.refl _)
theorem Home.b1 {w0 W : World} {bs : List (Nat × Obj)} {rs : List RowF} {x0 : Nat × Obj} {p : Nat} {o : Obj} (H : Home w0 (x0 :: (p, o) :: bs) rs W) : W.heap[p]? = some o := H.box (p, o) (.tail _ (.head _))
theorem Home.p1 {w0 W : World} {bs : List (Nat × Obj)} {rs : List RowF} {x0 : Nat × Obj} {p : Nat} {o : Obj} (H : Home w0 (x0 :: (p, o) :: bs) rs W) : w0.heap.size ≤ p := H.new (p, o) (.tail _ (.head _))
theorem Home.set1 {w0 W : World} {bs : List (Nat × Obj)} {rs : List RowF} {x0 : Nat × Obj} {p j : Nat} {o o' : Obj} {x : Value} (H : Home w0 (x0 :: (p, o) :: bs) rs W) (ho : (W.setCell ⟨p, j, none⟩ x).heap[p]? = some o') : Home w0 (x0 :: (p, o') :: bs) rs (W.setCell ⟨p, j, none⟩ x) := Home.set (pre := [x0]) H ho
theorem Home.s210 {w0 W : World} {bs : List (Nat × Obj)} {rs : List RowF} {x0 : Nat × Obj} {p : Nat} {u v : Value} {t : TypeId} (H : Home w0 (x0 :: (p, .cells #[u, v] t) :: bs) rs W) (y : Value) : Home w0 (x0 :: (p, .cells #[y, v] t) :: bs) rs (W.setCell ⟨p, 0, none⟩ y) := H.set1 (by simp [World.setCell, Array.getElem?_modify, H.b1])
theorem Home.s211 {w0 W : World} {bs : List (Nat × Obj)} {rs : List RowF} {x0 : Nat × Obj} {p : Nat} {u v : Value} {t : TypeId} (H : Home w0 (x0 :: (p, .cells #[u, v] t) :: bs) rs W) (y : Value) : Home w0 (x0 :: (p, .cells #[u, y] t) :: bs) rs (W.setCell ⟨p, 1, none⟩ y) := H.set1 (by simp [World.setCell, Array.getElem?_modify, H.b1])
theorem Home.s310 {w0 W : World} {bs : List (Nat × Obj)} {rs : List RowF} {x0 : Nat × Obj} {p : Nat} {u v x : Value} {t : TypeId} (H : Home w0 (x0 :: (p, .cells #[u, v, x] t) :: bs) rs W) (y : Value) : Home w0 (x0 :: (p, .cells #[y, v, x] t) :: bs) rs (W.setCell ⟨p, 0, none⟩ y) := H.set1 (by simp [World.setCell, Array.getElem?_modify, H.b1])
theorem Home.s311 {w0 W : World} {bs : List (Nat × Obj)} {rs : List RowF} {x0 : Nat × Obj} {p : Nat} {u v x : Value} {t : TypeId} (H : Home w0 (x0 :: (p, .cells #[u, v, x] t) :: bs) rs W) (y : Value) : Home w0 (x0 :: (p, .cells #[u, y, x] t) :: bs) rs (W.setCell ⟨p, 1, none⟩ y) := H.set1 (by simp [World.setCell, Array.getElem?_modify, H.b1])
theorem Home.s312 {w0 W : World} {bs : List (Nat × Obj)} {rs : List RowF} {x0 : Nat × Obj} {p : Nat} {u v x : Value} {t : TypeId} (H : Home w0 (x0 :: (p, .cells #[u, v, x] t) :: bs) rs W) (y : Value) : Home w0 (x0 :: (p, .cells #[u, v, y] t) :: bs) rs (W.setCell ⟨p, 2, none⟩ y) := H.set1 (by simp [World.setCell, Array.getElem?_modify, H.b1])
theorem Home.dropb1 {w0 W : World} {bs : List (Nat × Obj)} {rs : List RowF} {x0 : Nat × Obj} {p : Nat × Obj} (H : Home w0 (x0 :: p :: bs) rs W) : Home w0 (x0 :: bs) rs W := H.sub (.cons_cons _ (.cons _ (List.Sublist.refl _))) (List.Sublist.refl _)
theorem Home.b2 {w0 W : World} {bs : List (Nat × Obj)} {rs : List RowF} {x0 x1 : Nat × Obj} {p : Nat} {o : Obj} (H : Home w0 (x0 :: x1 :: (p, o) :: bs) rs W) : W.heap[p]? = some o := H.box (p, o) (.tail _ (.tail _ (.head _)))
theorem Home.p2 {w0 W : World} {bs : List (Nat × Obj)} {rs : List RowF} {x0 x1 : Nat × Obj} {p : Nat} {o : Obj} (H : Home w0 (x0 :: x1 :: (p, o) :: bs) rs W) : w0.heap.size ≤ p := H.new (p, o) (.tail _ (.tail _ (.head _)))
theorem Home.set2 {w0 W : World} {bs : List (Nat × Obj)} {rs : List RowF} {x0 x1 : Nat × Obj} {p j : Nat} {o o' : Obj} {x : Value} (H : Home w0 (x0 :: x1 :: (p, o) :: bs) rs W) (ho : (W.setCell ⟨p, j, none⟩ x).heap[p]? = some o') : Home w0 (x0 :: x1 :: (p, o') :: bs) rs (W.setCell ⟨p, j, none⟩ x) := Home.set (pre := [x0, x1]) H ho
theorem Home.s220 {w0 W : World} {bs : List (Nat × Obj)} {rs : List RowF} {x0 x1 : Nat × Obj} {p : Nat} {u v : Value} {t : TypeId} (H : Home w0 (x0 :: x1 :: (p, .cells #[u, v] t) :: bs) rs W) (y : Value) : Home w0 (x0 :: x1 :: (p, .cells #[y, v] t) :: bs) rs (W.setCell ⟨p, 0, none⟩ y) := H.set2 (by simp [World.setCell, Array.getElem?_modify, H.b2])
theorem Home.s221 {w0 W : World} {bs : List (Nat × Obj)} {rs : List RowF} {x0 x1 : Nat × Obj} {p : Nat} {u v : Value} {t : TypeId} (H : Home w0 (x0 :: x1 :: (p, .cells #[u, v] t) :: bs) rs W) (y : Value) : Home w0 (x0 :: x1 :: (p, .cells #[u, y] t) :: bs) rs (W.setCell ⟨p, 1, none⟩ y) := H.set2 (by simp [World.setCell, Array.getElem?_modify, H.b2])
theorem Home.s320 {w0 W : World} {bs : List (Nat × Obj)} {rs : List RowF} {x0 x1 : Nat × Obj} {p : Nat} {u v x : Value} {t : TypeId} (H : Home w0 (x0 :: x1 :: (p, .cells #[u, v, x] t) :: bs) rs W) (y : Value) : Home w0 (x0 :: x1 :: (p, .cells #[y, v, x] t) :: bs) rs (W.setCell ⟨p, 0, none⟩ y) := H.set2 (by simp [World.setCell, Array.getElem?_modify, H.b2])
theorem Home.s321 {w0 W : World} {bs : List (Nat × Obj)} {rs : List RowF} {x0 x1 : Nat × Obj} {p : Nat} {u v x : Value} {t : TypeId} (H : Home w0 (x0 :: x1 :: (p, .cells #[u, v, x] t) :: bs) rs W) (y : Value) : Home w0 (x0 :: x1 :: (p, .cells #[u, y, x] t) :: bs) rs (W.setCell ⟨p, 1, none⟩ y) := H.set2 (by simp [World.setCell, Array.getElem?_modify, H.b2])
theorem Home.s322 {w0 W : World} {bs : List (Nat × Obj)} {rs : List RowF} {x0 x1 : Nat × Obj} {p : Nat} {u v x : Value} {t : TypeId} (H : Home w0 (x0 :: x1 :: (p, .cells #[u, v, x] t) :: bs) rs W) (y : Value) : Home w0 (x0 :: x1 :: (p, .cells #[u, v, y] t) :: bs) rs (W.setCell ⟨p, 2, none⟩ y) := H.set2 (by simp [World.setCell, Array.getElem?_modify, H.b2])
theorem Home.dropb2 {w0 W : World} {bs : List (Nat × Obj)} {rs : List RowF} {x0 x1 : Nat × Obj} {p : Nat × Obj} (H : Home w0 (x0 :: x1 :: p :: bs) rs W) : Home w0 (x0 :: x1 :: bs) rs W := H.sub (.cons_cons _ (.cons_cons _ (.cons _ (List.Sublist.refl _)))) (List.Sublist.refl _)
theorem Home.b3 {w0 W : World} {bs : List (Nat × Obj)} {rs : List RowF} {x0 x1 x2 : Nat × Obj} {p : Nat} {o : Obj} (H : Home w0 (x0 :: x1 :: x2 :: (p, o) :: bs) rs W) : W.heap[p]? = some o := H.box (p, o) (.tail _ (.tail _ (.tail _ (.head _))))
theorem Home.p3 {w0 W : World} {bs : List (Nat × Obj)} {rs : List RowF} {x0 x1 x2 : Nat × Obj} {p : Nat} {o : Obj} (H : Home w0 (x0 :: x1 :: x2 :: (p, o) :: bs) rs W) : w0.heap.size ≤ p := H.new (p, o) (.tail _ (.tail _ (.tail _ (.head _))))
theorem Home.set3 {w0 W : World} {bs : List (Nat × Obj)} {rs : List RowF} {x0 x1 x2 : Nat × Obj} {p j : Nat} {o o' : Obj} {x : Value} (H : Home w0 (x0 :: x1 :: x2 :: (p, o) :: bs) rs W) (ho : (W.setCell ⟨p, j, none⟩ x).heap[p]? = some o') : Home w0 (x0 :: x1 :: x2 :: (p, o') :: bs) rs (W.setCell ⟨p, j, none⟩ x) := Home.set (pre := [x0, x1, x2]) H ho
theorem Home.s230 {w0 W : World} {bs : List (Nat × Obj)} {rs : List RowF} {x0 x1 x2 : Nat × Obj} {p : Nat} {u v : Value} {t : TypeId} (H : Home w0 (x0 :: x1 :: x2 :: (p, .cells #[u, v] t) :: bs) rs W) (y : Value) : Home w0 (x0 :: x1 :: x2 :: (p, .cells #[y, v] t) :: bs) rs (W.setCell ⟨p, 0, none⟩ y) := H.set3 (by simp [World.setCell, Array.getElem?_modify, H.b3])
theorem Home.s231 {w0 W : World} {bs : List (Nat × Obj)} {rs : List RowF} {x0 x1 x2 : Nat × Obj} {p : Nat} {u v : Value} {t : TypeId} (H : Home w0 (x0 :: x1 :: x2 :: (p, .cells #[u, v] t) :: bs) rs W) (y : Value) : Home w0 (x0 :: x1 :: x2 :: (p, .cells #[u, y] t) :: bs) rs (W.setCell ⟨p, 1, none⟩ y) := H.set3 (by simp [World.setCell, Array.getElem?_modify, H.b3])
theorem Home.s330 {w0 W : World} {bs : List (Nat × Obj)} {rs : List RowF} {x0 x1 x2 : Nat × Obj} {p : Nat} {u v x : Value} {t : TypeId} (H : Home w0 (x0 :: x1 :: x2 :: (p, .cells #[u, v, x] t) :: bs) rs W) (y : Value) : Home w0 (x0 :: x1 :: x2 :: (p, .cells #[y, v, x] t) :: bs) rs (W.setCell ⟨p, 0, none⟩ y) := H.set3 (by simp [World.setCell, Array.getElem?_modify, H.b3])
theorem Home.s331 {w0 W : World} {bs : List (Nat × Obj)} {rs : List RowF} {x0 x1 x2 : Nat × Obj} {p : Nat} {u v x : Value} {t : TypeId} (H : Home w0 (x0 :: x1 :: x2 :: (p, .cells #[u, v, x] t) :: bs) rs W) (y : Value) : Home w0 (x0 :: x1 :: x2 :: (p, .cells #[u, y, x] t) :: bs) rs (W.setCell ⟨p, 1, none⟩ y) := H.set3 (by simp [World.setCell, Array.getElem?_modify, H.b3])
theorem Home.s332 {w0 W : World} {bs : List (Nat × Obj)} {rs : List RowF} {x0 x1 x2 : Nat × Obj} {p : Nat} {u v x : Value} {t : TypeId} (H : Home w0 (x0 :: x1 :: x2 :: (p, .cells #[u, v, x] t) :: bs) rs W) (y : Value) : Home w0 (x0 :: x1 :: x2 :: (p, .cells #[u, v, y] t) :: bs) rs (W.setCell ⟨p, 2, none⟩ y) := H.set3 (by simp [World.setCell, Array.getElem?_modify, H.b3])
theorem Home.dropb3 {w0 W : World} {bs : List (Nat × Obj)} {rs : List RowF} {x0 x1 x2 : Nat × Obj} {p : Nat × Obj} (H : Home w0 (x0 :: x1 :: x2 :: p :: bs) rs W) : Home w0 (x0 :: x1 :: x2 :: bs) rs W := H.sub (.cons_cons _ (.cons_cons _ (.cons_cons _ (.cons _ (List.Sublist.refl _))))) (List.Sublist.refl _)
theorem Home.b4 {w0 W : World} {bs : List (Nat × Obj)} {rs : List RowF} {x0 x1 x2 x3 : Nat × Obj} {p : Nat} {o : Obj} (H : Home w0 (x0 :: x1 :: x2 :: x3 :: (p, o) :: bs) rs W) : W.heap[p]? = some o := H.box (p, o) (.tail _ (.tail _ (.tail _ (.tail _ (.head _)))))
theorem Home.p4 {w0 W : World} {bs : List (Nat × Obj)} {rs : List RowF} {x0 x1 x2 x3 : Nat × Obj} {p : Nat} {o : Obj} (H : Home w0 (x0 :: x1 :: x2 :: x3 :: (p, o) :: bs) rs W) : w0.heap.size ≤ p := H.new (p, o) (.tail _ (.tail _ (.tail _ (.tail _ (.head _)))))
theorem Home.set4 {w0 W : World} {bs : List (Nat × Obj)} {rs : List RowF} {x0 x1 x2 x3 : Nat × Obj} {p j : Nat} {o o' : Obj} {x : Value} (H : Home w0 (x0 :: x1 :: x2 :: x3 :: (p, o) :: bs) rs W) (ho : (W.setCell ⟨p, j, none⟩ x).heap[p]? = some o') : Home w0 (x0 :: x1 :: x2 :: x3 :: (p, o') :: bs) rs (W.setCell ⟨p, j, none⟩ x) := Home.set (pre := [x0, x1, x2, x3]) H ho
theorem Home.s240 {w0 W : World} {bs : List (Nat × Obj)} {rs : List RowF} {x0 x1 x2 x3 : Nat × Obj} {p : Nat} {u v : Value} {t : TypeId} (H : Home w0 (x0 :: x1 :: x2 :: x3 :: (p, .cells #[u, v] t) :: bs) rs W) (y : Value) : Home w0 (x0 :: x1 :: x2 :: x3 :: (p, .cells #[y, v] t) :: bs) rs (W.setCell ⟨p, 0, none⟩ y) := H.set4 (by simp [World.setCell, Array.getElem?_modify, H.b4])
theorem Home.s241 {w0 W : World} {bs : List (Nat × Obj)} {rs : List RowF} {x0 x1 x2 x3 : Nat × Obj} {p : Nat} {u v : Value} {t : TypeId} (H : Home w0 (x0 :: x1 :: x2 :: x3 :: (p, .cells #[u, v] t) :: bs) rs W) (y : Value) : Home w0 (x0 :: x1 :: x2 :: x3 :: (p, .cells #[u, y] t) :: bs) rs (W.setCell ⟨p, 1, none⟩ y) := H.set4 (by simp [World.setCell, Array.getElem?_modify, H.b4])
theorem Home.s340 {w0 W : World} {bs : List (Nat × Obj)} {rs : List RowF} {x0 x1 x2 x3 : Nat × Obj} {p : Nat} {u v x : Value} {t : TypeId} (H : Home w0 (x0 :: x1 :: x2 :: x3 :: (p, .cells #[u, v, x] t) :: bs) rs W) (y : Value) : Home w0 (x0 :: x1 :: x2 :: x3 :: (p, .cells #[y, v, x] t) :: bs) rs (W.setCell ⟨p, 0, none⟩ y) := H.set4 (by simp [World.setCell, Array.getElem?_modify, H.b4])
theorem Home.s341 {w0 W : World} {bs : List (Nat × Obj)} {rs : List RowF} {x0 x1 x2 x3 : Nat × Obj} {p : Nat} {u v x : Value} {t : TypeId} (H : Home w0 (x0 :: x1 :: x2 :: x3 :: (p, .cells #[u, v, x] t) :: bs) rs W) (y : Value) : Home w0 (x0 :: x1 :: x2 :: x3 :: (p, .cells #[u, y, x] t) :: bs) rs (W.setCell ⟨p, 1, none⟩ y) := H.set4 (by simp [World.setCell, Array.getElem?_modify, H.b4])
theorem Home.s342 {w0 W : World} {bs : List (Nat × Obj)} {rs : List RowF} {x0 x1 x2 x3 : Nat × Obj} {p : Nat} {u v x : Value} {t : TypeId} (H : Home w0 (x0 :: x1 :: x2 :: x3 :: (p, .cells #[u, v, x] t) :: bs) rs W) (y : Value) : Home w0 (x0 :: x1 :: x2 :: x3 :: (p, .cells #[u, v, y] t) :: bs) rs (W.setCell ⟨p, 2, none⟩ y) := H.set4 (by simp [World.setCell, Array.getElem?_modify, H.b4])
theorem Home.dropb4 {w0 W : World} {bs : List (Nat × Obj)} {rs : List RowF} {x0 x1 x2 x3 : Nat × Obj} {p : Nat × Obj} (H : Home w0 (x0 :: x1 :: x2 :: x3 :: p :: bs) rs W) : Home w0 (x0 :: x1 :: x2 :: x3 :: bs) rs W := H.sub (.cons_cons _ (.cons_cons _ (.cons_cons _ (.cons_cons _ (.cons _ (List.Sublist.refl _)))))) (List.Sublist.refl _)
theorem Home.b5 {w0 W : World} {bs : List (Nat × Obj)} {rs : List RowF} {x0 x1 x2 x3 x4 : Nat × Obj} {p : Nat} {o : Obj} (H : Home w0 (x0 :: x1 :: x2 :: x3 :: x4 :: (p, o) :: bs) rs W) : W.heap[p]? = some o := H.box (p, o) (.tail _ (.tail _ (.tail _ (.tail _ (.tail _ (.head _))))))
theorem Home.p5 {w0 W : World} {bs : List (Nat × Obj)} {rs : List RowF} {x0 x1 x2 x3 x4 : Nat × Obj} {p : Nat} {o : Obj} (H : Home w0 (x0 :: x1 :: x2 :: x3 :: x4 :: (p, o) :: bs) rs W) : w0.heap.size ≤ p := H.new (p, o) (.tail _ (.tail _ (.tail _ (.tail _ (.tail _ (.head _))))))
theorem Home.set5 {w0 W : World} {bs : List (Nat × Obj)} {rs : List RowF} {x0 x1 x2 x3 x4 : Nat × Obj} {p j : Nat} {o o' : Obj} {x : Value} (H : Home w0 (x0 :: x1 :: x2 :: x3 :: x4 :: (p, o) :: bs) rs W) (ho : (W.setCell ⟨p, j, none⟩ x).heap[p]? = some o') : Home w0 (x0 :: x1 :: x2 :: x3 :: x4 :: (p, o') :: bs) rs (W.setCell ⟨p, j, none⟩ x) := Home.set (pre := [x0, x1, x2, x3, x4]) H ho
theorem Home.s250 {w0 W : World} {bs : List (Nat × Obj)} {rs : List RowF} {x0 x1 x2 x3 x4 : Nat × Obj} {p : Nat} {u v : Value} {t : TypeId} (H : Home w0 (x0 :: x1 :: x2 :: x3 :: x4 :: (p, .cells #[u, v] t) :: bs) rs W) (y : Value) : Home w0 (x0 :: x1 :: x2 :: x3 :: x4 :: (p, .cells #[y, v] t) :: bs) rs (W.setCell ⟨p, 0, none⟩ y) := H.set5 (by simp [World.setCell, Array.getElem?_modify, H.b5])
theorem Home.s251 {w0 W : World} {bs : List (Nat × Obj)} {rs : List RowF} {x0 x1 x2 x3 x4 : Nat × Obj} {p : Nat} {u v : Value} {t : TypeId} (H : Home w0 (x0 :: x1 :: x2 :: x3 :: x4 :: (p, .cells #[u, v] t) :: bs) rs W) (y : Value) : Home w0 (x0 :: x1 :: x2 :: x3 :: x4 :: (p, .cells #[u, y] t) :: bs) rs (W.setCell ⟨p, 1, none⟩ y) := H.set5 (by simp [World.setCell, Array.getElem?_modify, H.b5])
theorem Home.s350 {w0 W : World} {bs : List (Nat × Obj)} {rs : List RowF} {x0 x1 x2 x3 x4 : Nat × Obj} {p : Nat} {u v x : Value} {t : TypeId} (H : Home w0 (x0 :: x1 :: x2 :: x3 :: x4 :: (p, .cells #[u, v, x] t) :: bs) rs W) (y : Value) : Home w0 (x0 :: x1 :: x2 :: x3 :: x4 :: (p, .cells #[y, v, x] t) :: bs) rs (W.setCell ⟨p, 0, none⟩ y) := H.set5 (by simp [World.setCell, Array.getElem?_modify, H.b5])
theorem Home.s351 {w0 W : World} {bs : List (Nat × Obj)} {rs : List RowF} {x0 x1 x2 x3 x4 : Nat × Obj} {p : Nat} {u v x : Value} {t : TypeId} (H : Home w0 (x0 :: x1 :: x2 :: x3 :: x4 :: (p, .cells #[u, v, x] t) :: bs) rs W) (y : Value) : Home w0 (x0 :: x1 :: x2 :: x3 :: x4 :: (p, .cells #[u, y, x] t) :: bs) rs (W.setCell ⟨p, 1, none⟩ y) := H.set5 (by simp [World.setCell, Array.getElem?_modify, H.b5])
theorem Home.s352 {w0 W : World} {bs : List (Nat × Obj)} {rs : List RowF} {x0 x1 x2 x3 x4 : Nat × Obj} {p : Nat} {u v x : Value} {t : TypeId} (H : Home w0 (x0 :: x1 :: x2 :: x3 :: x4 :: (p, .cells #[u, v, x] t) :: bs) rs W) (y : Value) : Home w0 (x0 :: x1 :: x2 :: x3 :: x4 :: (p, .cells #[u, v, y] t) :: bs) rs (W.setCell ⟨p, 2, none⟩ y) := H.set5 (by simp [World.setCell, Array.getElem?_modify, H.b5])
theorem Home.dropb5 {w0 W : World} {bs : List (Nat × Obj)} {rs : List RowF} {x0 x1 x2 x3 x4 : Nat × Obj} {p : Nat × Obj} (H : Home w0 (x0 :: x1 :: x2 :: x3 :: x4 :: p :: bs) rs W) : Home w0 (x0 :: x1 :: x2 :: x3 :: x4 :: bs) rs W := H.sub (.cons_cons _ (.cons_cons _ (.cons_cons _ (.cons_cons _ (.cons_cons _ (.cons _ (List.Sublist.refl _))))))) (List.Sublist.refl _)
theorem Home.b6 {w0 W : World} {bs : List (Nat × Obj)} {rs : List RowF} {x0 x1 x2 x3 x4 x5 : Nat × Obj} {p : Nat} {o : Obj} (H : Home w0 (x0 :: x1 :: x2 :: x3 :: x4 :: x5 :: (p, o) :: bs) rs W) : W.heap[p]? = some o := H.box (p, o) (.tail _ (.tail _ (.tail _ (.tail _ (.tail _ (.tail _ (.head _)))))))
theorem Home.p6 {w0 W : World} {bs : List (Nat × Obj)} {rs : List RowF} {x0 x1 x2 x3 x4 x5 : Nat × Obj} {p : Nat} {o : Obj} (H : Home w0 (x0 :: x1 :: x2 :: x3 :: x4 :: x5 :: (p, o) :: bs) rs W) : w0.heap.size ≤ p := H.new (p, o) (.tail _ (.tail _ (.tail _ (.tail _ (.tail _ (.tail _ (.head _)))))))
theorem Home.set6 {w0 W : World} {bs : List (Nat × Obj)} {rs : List RowF} {x0 x1 x2 x3 x4 x5 : Nat × Obj} {p j : Nat} {o o' : Obj} {x : Value} (H : Home w0 (x0 :: x1 :: x2 :: x3 :: x4 :: x5 :: (p, o) :: bs) rs W) (ho : (W.setCell ⟨p, j, none⟩ x).heap[p]? = some o') : Home w0 (x0 :: x1 :: x2 :: x3 :: x4 :: x5 :: (p, o') :: bs) rs (W.setCell ⟨p, j, none⟩ x) := Home.set (pre := [x0, x1, x2, x3, x4, x5]) H ho
theorem Home.s260 {w0 W : World} {bs : List (Nat × Obj)} {rs : List RowF} {x0 x1 x2 x3 x4 x5 : Nat × Obj} {p : Nat} {u v : Value} {t : TypeId} (H : Home w0 (x0 :: x1 :: x2 :: x3 :: x4 :: x5 :: (p, .cells #[u, v] t) :: bs) rs W) (y : Value) : Home w0 (x0 :: x1 :: x2 :: x3 :: x4 :: x5 :: (p, .cells #[y, v] t) :: bs) rs (W.setCell ⟨p, 0, none⟩ y) := H.set6 (by simp [World.setCell, Array.getElem?_modify, H.b6])
theorem Home.s261 {w0 W : World} {bs : List (Nat × Obj)} {rs : List RowF} {x0 x1 x2 x3 x4 x5 : Nat × Obj} {p : Nat} {u v : Value} {t : TypeId} (H : Home w0 (x0 :: x1 :: x2 :: x3 :: x4 :: x5 :: (p, .cells #[u, v] t) :: bs) rs W) (y : Value) : Home w0 (x0 :: x1 :: x2 :: x3 :: x4 :: x5 :: (p, .cells #[u, y] t) :: bs) rs (W.setCell ⟨p, 1, none⟩ y) := H.set6 (by simp [World.setCell, Array.getElem?_modify, H.b6])
theorem Home.s360 {w0 W : World} {bs : List (Nat × Obj)} {rs : List RowF} {x0 x1 x2 x3 x4 x5 : Nat × Obj} {p : Nat} {u v x : Value} {t : TypeId} (H : Home w0 (x0 :: x1 :: x2 :: x3 :: x4 :: x5 :: (p, .cells #[u, v, x] t) :: bs) rs W) (y : Value) : Home w0 (x0 :: x1 :: x2 :: x3 :: x4 :: x5 :: (p, .cells #[y, v, x] t) :: bs) rs (W.setCell ⟨p, 0, none⟩ y) := H.set6 (by simp [World.setCell, Array.getElem?_modify, H.b6])
theorem Home.s361 {w0 W : World} {bs : List (Nat × Obj)} {rs : List RowF} {x0 x1 x2 x3 x4 x5 : Nat × Obj} {p : Nat} {u v x : Value} {t : TypeId} (H : Home w0 (x0 :: x1 :: x2 :: x3 :: x4 :: x5 :: (p, .cells #[u, v, x] t) :: bs) rs W) (y : Value) : Home w0 (x0 :: x1 :: x2 :: x3 :: x4 :: x5 :: (p, .cells #[u, y, x] t) :: bs) rs (W.setCell ⟨p, 1, none⟩ y) := H.set6 (by simp [World.setCell, Array.getElem?_modify, H.b6])
theorem Home.s362 {w0 W : World} {bs : List (Nat × Obj)} {rs : List RowF} {x0 x1 x2 x3 x4 x5 : Nat × Obj} {p : Nat} {u v x : Value} {t : TypeId} (H : Home w0 (x0 :: x1 :: x2 :: x3 :: x4 :: x5 :: (p, .cells #[u, v, x] t) :: bs) rs W) (y : Value) : Home w0 (x0 :: x1 :: x2 :: x3 :: x4 :: x5 :: (p, .cells #[u, v, y] t) :: bs) rs (W.setCell ⟨p, 2, none⟩ y) := H.set6 (by simp [World.setCell, Array.getElem?_modify, H.b6])
theorem Home.dropb6 {w0 W : World} {bs : List (Nat × Obj)} {rs : List RowF} {x0 x1 x2 x3 x4 x5 : Nat × Obj} {p : Nat × Obj} (H : Home w0 (x0 :: x1 :: x2 :: x3 :: x4 :: x5 :: p :: bs) rs W) : Home w0 (x0 :: x1 :: x2 :: x3 :: x4 :: x5 :: bs) rs W := H.sub (.cons_cons _ (.cons_cons _ (.cons_cons _ (.cons_cons _ (.cons_cons _ (.cons_cons _ (.cons _ (List.Sublist.refl _)))))))) (List.Sublist.refl _)
theorem Home.b7 {w0 W : World} {bs : List (Nat × Obj)} {rs : List RowF} {x0 x1 x2 x3 x4 x5 x6 : Nat × Obj} {p : Nat} {o : Obj} (H : Home w0 (x0 :: x1 :: x2 :: x3 :: x4 :: x5 :: x6 :: (p, o) :: bs) rs W) : W.heap[p]? = some o := H.box (p, o) (.tail _ (.tail _ (.tail _ (.tail _ (.tail _ (.tail _ (.tail _ (.head _))))))))
theorem Home.p7 {w0 W : World} {bs : List (Nat × Obj)} {rs : List RowF} {x0 x1 x2 x3 x4 x5 x6 : Nat × Obj} {p : Nat} {o : Obj} (H : Home w0 (x0 :: x1 :: x2 :: x3 :: x4 :: x5 :: x6 :: (p, o) :: bs) rs W) : w0.heap.size ≤ p := H.new (p, o) (.tail _ (.tail _ (.tail _ (.tail _ (.tail _ (.tail _ (.tail _ (.head _))))))))
theorem Home.set7 {w0 W : World} {bs : List (Nat × Obj)} {rs : List RowF} {x0 x1 x2 x3 x4 x5 x6 : Nat × Obj} {p j : Nat} {o o' : Obj} {x : Value} (H : Home w0 (x0 :: x1 :: x2 :: x3 :: x4 :: x5 :: x6 :: (p, o) :: bs) rs W) (ho : (W.setCell ⟨p, j, none⟩ x).heap[p]? = some o') : Home w0 (x0 :: x1 :: x2 :: x3 :: x4 :: x5 :: x6 :: (p, o') :: bs) rs (W.setCell ⟨p, j, none⟩ x) := Home.set (pre := [x0, x1, x2, x3, x4, x5, x6]) H ho
theorem Home.s270 {w0 W : World} {bs : List (Nat × Obj)} {rs : List RowF} {x0 x1 x2 x3 x4 x5 x6 : Nat × Obj} {p : Nat} {u v : Value} {t : TypeId} (H : Home w0 (x0 :: x1 :: x2 :: x3 :: x4 :: x5 :: x6 :: (p, .cells #[u, v] t) :: bs) rs W) (y : Value) : Home w0 (x0 :: x1 :: x2 :: x3 :: x4 :: x5 :: x6 :: (p, .cells #[y, v] t) :: bs) rs (W.setCell ⟨p, 0, none⟩ y) := H.set7 (by simp [World.setCell, Array.getElem?_modify, H.b7])
theorem Home.s271 {w0 W : World} {bs : List (Nat × Obj)} {rs : List RowF} {x0 x1 x2 x3 x4 x5 x6 : Nat × Obj} {p : Nat} {u v : Value} {t : TypeId} (H : Home w0 (x0 :: x1 :: x2 :: x3 :: x4 :: x5 :: x6 :: (p, .cells #[u, v] t) :: bs) rs W) (y : Value) : Home w0 (x0 :: x1 :: x2 :: x3 :: x4 :: x5 :: x6 :: (p, .cells #[u, y] t) :: bs) rs (W.setCell ⟨p, 1, none⟩ y) := H.set7 (by simp [World.setCell, Array.getElem?_modify, H.b7])
theorem Home.s370 {w0 W : World} {bs : List (Nat × Obj)} {rs : List RowF} {x0 x1 x2 x3 x4 x5 x6 : Nat × Obj} {p : Nat} {u v x : Value} {t : TypeId} (H : Home w0 (x0 :: x1 :: x2 :: x3 :: x4 :: x5 :: x6 :: (p, .cells #[u, v, x] t) :: bs) rs W) (y : Value) : Home w0 (x0 :: x1 :: x2 :: x3 :: x4 :: x5 :: x6 :: (p, .cells #[y, v, x] t) :: bs) rs (W.setCell ⟨p, 0, none⟩ y) := H.set7 (by simp [World.setCell, Array.getElem?_modify, H.b7])
theorem Home.s371 {w0 W : World} {bs : List (Nat × Obj)} {rs : List RowF} {x0 x1 x2 x3 x4 x5 x6 : Nat × Obj} {p : Nat} {u v x : Value} {t : TypeId} (H : Home w0 (x0 :: x1 :: x2 :: x3 :: x4 :: x5 :: x6 :: (p, .cells #[u, v, x] t) :: bs) rs W) (y : Value) : Home w0 (x0 :: x1 :: x2 :: x3 :: x4 :: x5 :: x6 :: (p, .cells #[u, y, x] t) :: bs) rs (W.setCell ⟨p, 1, none⟩ y) := H.set7 (by simp [World.setCell, Array.getElem?_modify, H.b7])
theorem Home.s372 {w0 W : World} {bs : List (Nat × Obj)} {rs : List RowF} {x0 x1 x2 x3 x4 x5 x6 : Nat × Obj} {p : Nat} {u v x : Value} {t : TypeId} (H : Home w0 (x0 :: x1 :: x2 :: x3 :: x4 :: x5 :: x6 :: (p, .cells #[u, v, x] t) :: bs) rs W) (y : Value) : Home w0 (x0 :: x1 :: x2 :: x3 :: x4 :: x5 :: x6 :: (p, .cells #[u, v, y] t) :: bs) rs (W.setCell ⟨p, 2, none⟩ y) := H.set7 (by simp [World.setCell, Array.getElem?_modify, H.b7])
theorem Home.dropb7 {w0 W : World} {bs : List (Nat × Obj)} {rs : List RowF} {x0 x1 x2 x3 x4 x5 x6 : Nat × Obj} {p : Nat × Obj} (H : Home w0 (x0 :: x1 :: x2 :: x3 :: x4 :: x5 :: x6 :: p :: bs) rs W) : Home w0 (x0 :: x1 :: x2 :: x3 :: x4 :: x5 :: x6 :: bs) rs W := H.sub (.cons_cons _ (.cons_cons _ (.cons_cons _ (.cons_cons _ (.cons_cons _ (.cons_cons _ (.cons_cons _ (.cons _ (List.Sublist.refl _))))))))) (List.Sublist.refl _)
theorem Home.r0 {w0 W : World} {bs : List (Nat × Obj)} {rs : List RowF} {r : RowF} (H : Home w0 bs (r :: rs) W) : r.on W := H.row r (.head _)
theorem Home.turn0 {w0 W W' : World} {bs : List (Nat × Obj)} {rs : List RowF} {r r' : RowF} (H : Home w0 bs (r :: rs) W) (hg : W.grownBy W' r.v.ownBlock) (h : r'.on W') (hB : r'.B = r.B) (hd : r'.v.ownBlock = r.v.ownBlock ∨ ((∀ s, s ∈ rs → s.t ≠ r'.t) ∧ ∀ p, p ∈ bs → objType p.2 ≠ some r'.t)) : Home w0 bs (r' :: rs) W' := Home.turn (pre := []) H hg h hB hd
theorem Home.dropr0 {w0 W : World} {bs : List (Nat × Obj)} {rs : List RowF} {r : RowF} (H : Home w0 bs (r :: rs) W) : Home w0 bs (rs) W := H.sub (List.Sublist.refl _) (.cons _ (List.Sublist.refl _))
theorem Home.r1 {w0 W : World} {bs : List (Nat × Obj)} {rs : List RowF} {x0 : RowF} {r : RowF} (H : Home w0 bs (x0 :: r :: rs) W) : r.on W := H.row r (.tail _ (.head _))
theorem Home.turn1 {w0 W W' : World} {bs : List (Nat × Obj)} {rs : List RowF} {x0 : RowF} {r r' : RowF} (H : Home w0 bs (x0 :: r :: rs) W) (hg : W.grownBy W' r.v.ownBlock) (h : r'.on W') (hB : r'.B = r.B) (hd : r'.v.ownBlock = r.v.ownBlock ∨ ((∀ s, s ∈ x0 :: rs → s.t ≠ r'.t) ∧ ∀ p, p ∈ bs → objType p.2 ≠ some r'.t)) : Home w0 bs (x0 :: r' :: rs) W' := Home.turn (pre := [x0]) H hg h hB hd
theorem Home.dropr1 {w0 W : World} {bs : List (Nat × Obj)} {rs : List RowF} {x0 : RowF} {r : RowF} (H : Home w0 bs (x0 :: r :: rs) W) : Home w0 bs (x0 :: rs) W := H.sub (List.Sublist.refl _) (.cons_cons _ (.cons _ (List.Sublist.refl _)))
theorem Home.r2 {w0 W : World} {bs : List (Nat × Obj)} {rs : List RowF} {x0 x1 : RowF} {r : RowF} (H : Home w0 bs (x0 :: x1 :: r :: rs) W) : r.on W := H.row r (.tail _ (.tail _ (.head _)))
theorem Home.turn2 {w0 W W' : World} {bs : List (Nat × Obj)} {rs : List RowF} {x0 x1 : RowF} {r r' : RowF} (H : Home w0 bs (x0 :: x1 :: r :: rs) W) (hg : W.grownBy W' r.v.ownBlock) (h : r'.on W') (hB : r'.B = r.B) (hd : r'.v.ownBlock = r.v.ownBlock ∨ ((∀ s, s ∈ x0 :: x1 :: rs → s.t ≠ r'.t) ∧ ∀ p, p ∈ bs → objType p.2 ≠ some r'.t)) : Home w0 bs (x0 :: x1 :: r' :: rs) W' := Home.turn (pre := [x0, x1]) H hg h hB hd
theorem Home.dropr2 {w0 W : World} {bs : List (Nat × Obj)} {rs : List RowF} {x0 x1 : RowF} {r : RowF} (H : Home w0 bs (x0 :: x1 :: r :: rs) W) : Home w0 bs (x0 :: x1 :: rs) W := H.sub (List.Sublist.refl _) (.cons_cons _ (.cons_cons _ (.cons _ (List.Sublist.refl _))))
theorem Home.r3 {w0 W : World} {bs : List (Nat × Obj)} {rs : List RowF} {x0 x1 x2 : RowF} {r : RowF} (H : Home w0 bs (x0 :: x1 :: x2 :: r :: rs) W) : r.on W := H.row r (.tail _ (.tail _ (.tail _ (.head _))))
theorem Home.turn3 {w0 W W' : World} {bs : List (Nat × Obj)} {rs : List RowF} {x0 x1 x2 : RowF} {r r' : RowF} (H : Home w0 bs (x0 :: x1 :: x2 :: r :: rs) W) (hg : W.grownBy W' r.v.ownBlock) (h : r'.on W') (hB : r'.B = r.B) (hd : r'.v.ownBlock = r.v.ownBlock ∨ ((∀ s, s ∈ x0 :: x1 :: x2 :: rs → s.t ≠ r'.t) ∧ ∀ p, p ∈ bs → objType p.2 ≠ some r'.t)) : Home w0 bs (x0 :: x1 :: x2 :: r' :: rs) W' := Home.turn (pre := [x0, x1, x2]) H hg h hB hd
theorem Home.dropr3 {w0 W : World} {bs : List (Nat × Obj)} {rs : List RowF} {x0 x1 x2 : RowF} {r : RowF} (H : Home w0 bs (x0 :: x1 :: x2 :: r :: rs) W) : Home w0 bs (x0 :: x1 :: x2 :: rs) W := H.sub (List.Sublist.refl _) (.cons_cons _ (.cons_cons _ (.cons_cons _ (.cons _ (List.Sublist.refl _)))))
theorem Home.r4 {w0 W : World} {bs : List (Nat × Obj)} {rs : List RowF} {x0 x1 x2 x3 : RowF} {r : RowF} (H : Home w0 bs (x0 :: x1 :: x2 :: x3 :: r :: rs) W) : r.on W := H.row r (.tail _ (.tail _ (.tail _ (.tail _ (.head _)))))
theorem Home.turn4 {w0 W W' : World} {bs : List (Nat × Obj)} {rs : List RowF} {x0 x1 x2 x3 : RowF} {r r' : RowF} (H : Home w0 bs (x0 :: x1 :: x2 :: x3 :: r :: rs) W) (hg : W.grownBy W' r.v.ownBlock) (h : r'.on W') (hB : r'.B = r.B) (hd : r'.v.ownBlock = r.v.ownBlock ∨ ((∀ s, s ∈ x0 :: x1 :: x2 :: x3 :: rs → s.t ≠ r'.t) ∧ ∀ p, p ∈ bs → objType p.2 ≠ some r'.t)) : Home w0 bs (x0 :: x1 :: x2 :: x3 :: r' :: rs) W' := Home.turn (pre := [x0, x1, x2, x3]) H hg h hB hd
theorem Home.dropr4 {w0 W : World} {bs : List (Nat × Obj)} {rs : List RowF} {x0 x1 x2 x3 : RowF} {r : RowF} (H : Home w0 bs (x0 :: x1 :: x2 :: x3 :: r :: rs) W) : Home w0 bs (x0 :: x1 :: x2 :: x3 :: rs) W := H.sub (List.Sublist.refl _) (.cons_cons _ (.cons_cons _ (.cons_cons _ (.cons_cons _ (.cons _ (List.Sublist.refl _))))))
theorem Home.r5 {w0 W : World} {bs : List (Nat × Obj)} {rs : List RowF} {x0 x1 x2 x3 x4 : RowF} {r : RowF} (H : Home w0 bs (x0 :: x1 :: x2 :: x3 :: x4 :: r :: rs) W) : r.on W := H.row r (.tail _ (.tail _ (.tail _ (.tail _ (.tail _ (.head _))))))
theorem Home.turn5 {w0 W W' : World} {bs : List (Nat × Obj)} {rs : List RowF} {x0 x1 x2 x3 x4 : RowF} {r r' : RowF} (H : Home w0 bs (x0 :: x1 :: x2 :: x3 :: x4 :: r :: rs) W) (hg : W.grownBy W' r.v.ownBlock) (h : r'.on W') (hB : r'.B = r.B) (hd : r'.v.ownBlock = r.v.ownBlock ∨ ((∀ s, s ∈ x0 :: x1 :: x2 :: x3 :: x4 :: rs → s.t ≠ r'.t) ∧ ∀ p, p ∈ bs → objType p.2 ≠ some r'.t)) : Home w0 bs (x0 :: x1 :: x2 :: x3 :: x4 :: r' :: rs) W' := Home.turn (pre := [x0, x1, x2, x3, x4]) H hg h hB hd
theorem Home.dropr5 {w0 W : World} {bs : List (Nat × Obj)} {rs : List RowF} {x0 x1 x2 x3 x4 : RowF} {r : RowF} (H : Home w0 bs (x0 :: x1 :: x2 :: x3 :: x4 :: r :: rs) W) : Home w0 bs (x0 :: x1 :: x2 :: x3 :: x4 :: rs) W := H.sub (List.Sublist.refl _) (.cons_cons _ (.cons_cons _ (.cons_cons _ (.cons_cons _ (.cons_cons _ (.cons _ (List.Sublist.refl _)))))))
theorem Home.r6 {w0 W : World} {bs : List (Nat × Obj)} {rs : List RowF} {x0 x1 x2 x3 x4 x5 : RowF} {r : RowF} (H : Home w0 bs (x0 :: x1 :: x2 :: x3 :: x4 :: x5 :: r :: rs) W) : r.on W := H.row r (.tail _ (.tail _ (.tail _ (.tail _ (.tail _ (.tail _ (.head _)))))))
theorem Home.turn6 {w0 W W' : World} {bs : List (Nat × Obj)} {rs : List RowF} {x0 x1 x2 x3 x4 x5 : RowF} {r r' : RowF} (H : Home w0 bs (x0 :: x1 :: x2 :: x3 :: x4 :: x5 :: r :: rs) W) (hg : W.grownBy W' r.v.ownBlock) (h : r'.on W') (hB : r'.B = r.B) (hd : r'.v.ownBlock = r.v.ownBlock ∨ ((∀ s, s ∈ x0 :: x1 :: x2 :: x3 :: x4 :: x5 :: rs → s.t ≠ r'.t) ∧ ∀ p, p ∈ bs → objType p.2 ≠ some r'.t)) : Home w0 bs (x0 :: x1 :: x2 :: x3 :: x4 :: x5 :: r' :: rs) W' := Home.turn (pre := [x0, x1, x2, x3, x4, x5]) H hg h hB hd
theorem Home.dropr6 {w0 W : World} {bs : List (Nat × Obj)} {rs : List RowF} {x0 x1 x2 x3 x4 x5 : RowF} {r : RowF} (H : Home w0 bs (x0 :: x1 :: x2 :: x3 :: x4 :: x5 :: r :: rs) W) : Home w0 bs (x0 :: x1 :: x2 :: x3 :: x4 :: x5 :: rs) W := H.sub (List.Sublist.refl _) (.cons_cons _ (.cons_cons _ (.cons_cons _ (.cons_cons _ (.cons_cons _ (.cons_cons _ (.cons _ (List.Sublist.refl _))))))))
end Go.Proofs.YtapmgbnhobpahaaGreatDoor
/- l3Raise of the model: it writes into the versions alone. -/
namespace Go.Proofs.YtapmgbnhobpahaaGreatDoor
open Go.RowKit

theorem hidS {p : Prop} (h : p) : Hid p := h
theorem grown_out {w W : World} {row : Option Nat} (h : w.grownBy W row) (b o : Nat) (v : Value) (hb : w.heap.size ≤ b) : w.grownBy (W.setCell ⟨b, o, none⟩ v) row :=
  ⟨h.os, h.tape, h.output, by simpa [World.setCell] using h.size, fun k hk hne => by rw [Below.heap_setCell _ _ _ _ (show k ≠ b by omega)]; exact h.block k hk hne⟩
theorem grown_drew {w W : World} {row : Option Nat} (h : w.grownBy W row) : w.grownBy W.drew row := ⟨h.os, h.tape, h.output, h.size, h.block⟩
theorem grown_below {w W : World} (h : Below w.heap.size w W) (row : Option Nat) : w.grownBy W row := ⟨h.os, h.tape, h.output, h.size, fun k hk _ => h.block k hk⟩
theorem intsKeep {B b o : Nat} {v : Value} {xs : List Int} {W : World} (h : Ints B v xs W) (u : Value) (hb : v.ownBlock ≠ some b) : Ints B v xs (W.setCell ⟨b, o, none⟩ u) := h.kept (grown_set W b o u) (fun k e e' => by cases e; exact hb e')
theorem seatsKeep {B b o : Nat} {v : Value} {xs : List (Int × Int)} {W : World} (h : Seats B v xs W) (u : Value) (hb : v.ownBlock ≠ some b) : Seats B v xs (W.setCell ⟨b, o, none⟩ u) := h.kept (grown_set W b o u) (fun k e e' => by cases e; exact hb e')

set_option maxRecDepth 100000 in
set_option maxHeartbeats 2000000 in
theorem l3Raise_eq {B : Nat} {x : Value} {vs : List Int} {w : World} (ep : Int) (ay : Option Addr) (ny cy : Nat) (j : Nat) (hj : j < 15) (hl : vs.length = 15) (hx : Ints B x vs w) :
    Calls Tryz.prog 83 #[svv ep x (.slice ay ny cy), .int .i64 ((j : Int) + 1)] w fun e w' => e = .returned (svv ep x (.slice ay ny cy)) ∧ Ints B x (vs.set j (wrap64 (vAt vs j + 1))) w' ∧ w.grownBy w' x.ownBlock := by
  obtain ⟨a, c, hv, _, hrow⟩ := hx.row
  subst hv
  obtain ⟨g, rfl, hg, hseg⟩ : ∃ g, a = some ⟨g, 0, none⟩ ∧ g < w.heap.size ∧ ISeg g 0 vs w := by
    rcases hrow with e | e
    · rw [e] at hl; simp at hl
    · exact e
  have hfr : w.frozen? ⟨g, j, none⟩ = false := by
    rcases hx.form with ⟨e, _⟩ | ⟨g', cap, e, _, _, _, _, hf⟩
    · cases e
    · cases e
      exact (hf j (by omega)).2
  have a1 := hseg j (by omega)
  rw [Nat.zero_add] at a1
  rw [hl] at hx ⊢
  have H1 := ((Home.start w).alloc (svb ep (.slice (some ⟨g, 0, none⟩) 15 c) (.slice ay ny cy))).alloc (svb 0 (.slice none 0 0) (.slice none 0 0))
  have hB1 := H1.bel
  have a1 := cell_since a1 hB1
  have hfr := (hB1.frozen (p := ⟨g, j, none⟩) hg).trans hfr
  have HX := hidS (hx.since hB1)
  simp only [World.size_alloc] at H1
  rw [← vAt_get vs j (by omega)] at a1
  generalize vAt vs j = z at a1 ⊢
  have b0 := H1.b1
  have b1 := H1.b0
  have HH := hidS H1
  obtain ⟨⟨p0, p1, p2⟩, f0, f1, f2⟩ := box3 b0
  obtain ⟨⟨q0, q1, q2⟩, h0, h1, h2⟩ := box3 b1
  clear hseg hrow H1 hx b0 b1
  go_enter Tryz.func83, Tryz.ntmps83
  go_wp2
  generalize (w.alloc (svb ep (.slice (some ⟨g, 0, none⟩) 15 c) (.slice ay ny cy))).alloc (svb 0 (.slice none 0 0) (.slice none 0 0)) = w1 at *
  go_region
  all_goals
    have st := Ints.stored (n := 15) hl HX.out j (by omega) (wrap64 (z + 1))
    have g2 := grown_drew st.2
    have k2 : Ints B (.slice (some ⟨g, 0, none⟩) 15 c) (vs.set j (wrap64 (z + 1))) (w1.setCell ⟨g, j, none⟩ (.int .i64 (wrap64 (z + 1)))).drew := st.1
    have hs1 := hB1.size
    have b0 := (g2.block _ (blkLt HH.out.b1) (fun e => by cases e; have := HH.out.p1; omega)).trans HH.out.b1
    have b1 := (g2.block _ (blkLt HH.out.b0) (fun e => by cases e; have := HH.out.p0; omega)).trans HH.out.b0
    have G2 := hidS (show w.grownBy (w1.setCell ⟨g, j, none⟩ (.int .i64 (wrap64 (z + 1)))).drew (some g) from (grown_below hB1 (some g)).trans g2)
    have K2 := hidS k2
    clear st g2 k2 HX HH a1 hfr p0 p1 p2 f0 f1 f2 q0 q1 q2 h0 h1 h2
    generalize (w1.setCell ⟨g, j, none⟩ (.int .i64 (wrap64 (z + 1)))).drew = w2 at *
    obtain ⟨⟨p0, p1, p2⟩, f0, f1, f2⟩ := box3 b0
    obtain ⟨⟨q0, q1, q2⟩, h0, h1, h2⟩ := box3 b1
    have HF := hidS (box3_set2 (box3_set1 (box3_set0 b1 (.int .i64 ep)) (.slice (some ⟨g, 0, none⟩) 15 c)) (.slice ay ny cy))
    have hgne : (Value.slice (some ⟨g, 0, none⟩) 15 c).ownBlock ≠ some (w.heap.size + 1) := fun e => by have := Option.some.inj (show some g = some _ from e); omega
    have K3 := hidS (intsKeep (o := 2) (intsKeep (o := 1) (intsKeep (o := 0) K2.out (.int .i64 ep) hgne) (.slice (some ⟨g, 0, none⟩) 15 c) hgne) (.slice ay ny cy) hgne)
    have G3 := hidS (grown_out (grown_out (grown_out G2.out (w.heap.size + 1) 0 (.int .i64 ep) (by omega)) (w.heap.size + 1) 1 (.slice (some ⟨g, 0, none⟩) 15 c) (by omega)) (w.heap.size + 1) 2 (.slice ay ny cy) (by omega))
    clear K2 G2 b0 b1 hgne
    go_wp2
    have bF := HF.out
    have gK := K3.out
    have gG := G3.out
    clear HF K3 G3
    generalize ((w2.setCell ⟨w.heap.size + 1, 0, none⟩ (.int .i64 ep)).setCell ⟨w.heap.size + 1, 1, none⟩ (.slice (some ⟨g, 0, none⟩) 15 c)).setCell ⟨w.heap.size + 1, 2, none⟩ (.slice ay ny cy) = WF at bF gK gG ⊢
    obtain ⟨⟨z0, z1, z2⟩, _, _, _⟩ := box3 bF
    exact bodyPost_ret (v := svv ep (.slice (some ⟨g, 0, none⟩) 15 c) (.slice ay ny cy)) (by simp [results, Tryz.results83, go_sem, z0, z1, z2]) rfl ⟨rfl, gK, gG⟩
theorem l3Raise_any {B : Nat} {x : Value} {vs : List Int} {w : World} (ep : Int) (ay : Option Addr) (ny cy : Nat) (j : Nat) (hj : j < 15) (hl : vs.length = 15) (hx : Ints B x vs w) :
    Calls Tryz.prog 83 #[svv ep x (.slice ay ny cy), .int .i64 ((j : Int) + 1)] w fun e w' => e = .returned (svv ep x (.slice ay ny cy)) ∧ ∃ z, Ints B x (vs.set j z) w' ∧ w.grownBy w' x.ownBlock :=
  (l3Raise_eq ep ay ny cy j hj hl hx).mono fun _ _ ⟨h1, h2, h3⟩ => ⟨h1, _, h2, h3⟩
end Go.Proofs.YtapmgbnhobpahaaGreatDoor
/- l3Some, l3Room, l3Form of the model: they answer, and turn nothing that was there. -/
namespace Go.Proofs.YtapmgbnhobpahaaGreatDoor
open Go.RowKit

/-- Does somebody sit below a node? -/
def someB (ss : List (Int × Int)) (node : Int) : Bool := (List.range ss.length).any fun i => decide (node ∈ path (kAt ss i).2)
theorem someB_true {ss : List (Int × Int)} {node : Int} {k : Nat} (hk : k < ss.length) (h : node ∈ path (kAt ss k).2) : someB ss node = true := by
  unfold someB
  rw [List.any_eq_true]
  exact ⟨k, List.mem_range.2 hk, decide_eq_true h⟩
theorem someB_false {ss : List (Int × Int)} {node : Int} (h : ∀ i, i < ss.length → ¬ node ∈ path (kAt ss i).2) : someB ss node = false := by
  unfold someB
  rw [List.any_eq_false]
  intro i hi
  simpa using h i (List.mem_range.1 hi)
set_option maxRecDepth 100000 in
set_option maxHeartbeats 2000000 in
theorem l3Some_eq {C : Nat} {x y : Value} {ss : List (Int × Int)} {w : World} (ep node : Int) (hy : Seats C y ss w) :
    Calls Tryz.prog 94 #[svv ep x y, .int .i64 node] w fun e w' => e = .returned (.bool (someB ss node)) ∧ Below w.heap.size w w' := by
  obtain ⟨a, c, hv, hm, hrow⟩ := hy.row
  subst hv
  unfold maxLen at hm
  have HR := hidS hrow
  have hB1 := one_below w (svb ep x (.slice a ss.length c))
  obtain ⟨c0, c1, c2⟩ := scell3 w ep x (.slice a ss.length c)
  clear hrow hy
  generalize hn : ss.length = n at *
  have HN := hidS hn
  clear hn
  go_enter Tryz.func94, Tryz.ntmps94
  go_wp2
  generalize w.alloc (svb ep x (.slice a n c)) = w1 at *
  go_loopw [5] (fun i wr => ∃ k : Nat, k ≤ n ∧ i = .int .i64 (k : Int) ∧ Hid (∀ i, i < k → ¬ node ∈ path (kAt ss i).2) ∧ Below w1.heap.size w1 wr) (fun i _ => n - (intOf i).toNat)
  case atStart => exact ⟨0, Nat.zero_le _, rfl, (fun i h => absurd h (Nat.not_lt_zero _)), Below.refl _ _⟩
  case round =>
    obtain ⟨k, hk, rfl, HNo, hB⟩ := hrel
    have d2 := cell_since c2 hB
    have hs1 := hB1.size
    by_cases hlt : k < n
    · obtain ⟨g, ha, hg, hseg⟩ : ∃ g, a = some ⟨g, 0, none⟩ ∧ g < w.heap.size ∧ KSeg g 0 ss w := by
        rcases HR.out with e | e
        · have := HN.out; rw [e] at this; simp at this; omega
        · exact e
      subst ha
      have hlk : k < ss.length := by have := HN.out; omega
      have a2 := cell_since (cell_since (hseg k hlk).2 hB1) hB
      simp only [Nat.zero_add] at a2
      have HLk := hidS (show (kAt ss k).2 = ss[k].2 by rw [kAt_get ss k hlk])
      have HLk2 := hidS hlk
      generalize ss[k].2 = lf at a2 HLk
      clear hseg
      go_wp2_with fail
      refine (specPathOf_any _ _).mono ?_
      rintro e w2 ⟨pv, rfl, hP, hb2⟩
      have hB2 := hidS (more hB hb2)
      obtain ⟨ap, cp, hvp, hmp, hprow⟩ := hP.row
      subst hvp
      unfold maxLen at hmp
      have HP := hidS hprow
      have hpl := path_len lf
      clear hB hb2 hP hprow a2 d2
      have HPs := hidS (show path (kAt ss k).2 = path lf by rw [HLk.out])
      generalize path lf = ps at *
      generalize hm2 : ps.length = m at *
      have HM := hidS hm2
      clear hm2
      go_wp2
      go_loopw [7] (fun j w' => ∃ q : Nat, q ≤ m ∧ j = .int .i64 (q : Int) ∧ Hid (¬ node ∈ ps.take q) ∧ w' = w2) (fun j _ => m - (intOf j).toNat)
      case atStart => exact ⟨0, Nat.zero_le _, rfl, (by show ¬ _; simp), rfl⟩
      case round =>
        obtain ⟨q, hq, rfl, HQn, rfl⟩ := hrel
        by_cases hql : q < m
        · obtain ⟨gp, hap, hgp, hpseg⟩ : ∃ g, ap = some ⟨g, 0, none⟩ ∧ g < wr.heap.size ∧ ISeg g 0 ps wr := by
            rcases HP.out with e | e
            · have := HM.out; rw [e] at this; simp at this; omega
            · exact e
          subst hap
          have hqk : q < ps.length := by have := HM.out; omega
          have e1 := hpseg q hqk
          rw [Nat.zero_add] at e1
          have HTk := hidS (List.take_succ_eq_append_getElem hqk)
          have HMem := hidS (List.getElem_mem hqk)
          generalize ps[q] = z at e1 HTk HMem
          clear hpseg
          by_cases hz : z = node
          · have hz' : (z == node) = true := by simpa using hz
            go_wp2
            go_ret
            exact ⟨by rw [someB_true HLk2.out (by rw [HPs.out, ← hz]; exact HMem.out)]; rfl, more hB1 hB2.out⟩
          · have hz' : (z == node) = false := by simpa using hz
            go_wp2
            go_roundw
            case rel => exact ⟨q + 1, by omega, by go_num, (by show ¬ _; rw [HTk.out]; intro h; rcases List.mem_append.1 h with h | h; exact HQn.out h; simp at h; exact hz h.symm), trivial⟩
            case measure => simp [intOf] <;> omega
        · go_wp2
          go_roundw
          case rel => exact ⟨k + 1, by omega, by go_num, (fun i hi => by
            rcases Nat.lt_succ_iff_lt_or_eq.1 hi with h | h
            · exact HNo.out i h
            · subst h
              have hq' : q = m := by omega
              have := HQn.out
              rw [hq', ← HM.out, List.take_length] at this
              rw [HPs.out]
              exact this), hB2.out⟩
          case measure => simp [intOf] <;> omega
    · go_wp2
      go_ret
      exact ⟨by rw [someB_false (fun i hi => HNo.out i (by have := HN.out; omega))]; rfl, more hB1 hB⟩
theorem l3Some_any {C : Nat} {x y : Value} {ss : List (Int × Int)} {w : World} (ep node : Int) (hy : Seats C y ss w) :
    Calls Tryz.prog 94 #[svv ep x y, .int .i64 node] w fun e w' => ∃ b, e = .returned (.bool b) ∧ Below w.heap.size w w' := (l3Some_eq ep node hy).mono fun _ _ ⟨h1, h2⟩ => ⟨_, h1, h2⟩

/-- Are there versions enough? -/
def roomB (ep : Int) (vs : List Int) : Bool := (List.range vs.length).all (fun i => decide (vAt vs i ≠ 1000000000)) && decide (ep < 1000000000)
theorem roomB_no {ep : Int} {vs : List Int} {k : Nat} (hk : k < vs.length) (h : vAt vs k = 1000000000) : roomB ep vs = false := by
  unfold roomB
  rw [Bool.and_eq_false_iff]
  refine .inl ?_
  rw [List.all_eq_false]
  exact ⟨k, List.mem_range.2 hk, by simp [h]⟩
theorem roomB_yes {ep : Int} {vs : List Int} (h : ∀ i, i < vs.length → vAt vs i ≠ 1000000000) : roomB ep vs = decide (ep < 1000000000) := by
  unfold roomB
  rw [show ((List.range vs.length).all fun i => decide (vAt vs i ≠ 1000000000)) = true from List.all_eq_true.2 fun i hi => by simpa using h i (List.mem_range.1 hi), Bool.true_and]
set_option maxRecDepth 100000 in
set_option maxHeartbeats 2000000 in
theorem l3Room_eq {B : Nat} {x y : Value} {vs : List Int} {w : World} (ep : Int) (hx : Ints B x vs w) :
    Calls Tryz.prog 80 #[svv ep x y] w fun e w' => e = .returned (.bool (roomB ep vs)) ∧ Below w.heap.size w w' := by
  obtain ⟨a, c, hv, hm, hrow⟩ := hx.row
  subst hv
  unfold maxLen at hm
  have HR := hidS hrow
  have hB1 := one_below w (svb ep (.slice a vs.length c) y)
  obtain ⟨c0, c1, c2⟩ := scell3 w ep (.slice a vs.length c) y
  clear hrow hx
  generalize hn : vs.length = n at *
  have HN := hidS hn
  clear hn
  go_enter Tryz.func80, Tryz.ntmps80
  go_wp2
  generalize w.alloc (svb ep (.slice a n c) y) = w1 at *
  go_loopw [3] (fun i wr => ∃ k : Nat, k ≤ n ∧ i = .int .i64 (k : Int) ∧ Hid (∀ i, i < k → vAt vs i ≠ 1000000000) ∧ wr = w1) (fun i _ => n - (intOf i).toNat)
  case atStart => exact ⟨0, Nat.zero_le _, rfl, (fun i h => absurd h (Nat.not_lt_zero _)), rfl⟩
  case round =>
    obtain ⟨k, hk, rfl, HNo, rfl⟩ := hrel
    by_cases hlt : k < n
    · obtain ⟨g, ha, hg, hseg⟩ : ∃ g, a = some ⟨g, 0, none⟩ ∧ g < w.heap.size ∧ ISeg g 0 vs w := by
        rcases HR.out with e | e
        · have := HN.out; rw [e] at this; simp at this; omega
        · exact e
      subst ha
      have hlk : k < vs.length := by have := HN.out; omega
      have a2 := cell_since (hseg k hlk) hB1
      rw [Nat.zero_add] at a2
      rw [← vAt_get vs k hlk] at a2
      have HZ := hidS (rfl : vAt vs k = vAt vs k)
      generalize hzk : vAt vs k = z at a2
      have HZk := hidS hzk
      clear hzk HZ
      have HLk2 := hidS hlk
      clear hseg
      by_cases hz : z = 1000000000
      · have hz' : (z == 1000000000) = true := by simpa using hz
        go_wp2
        go_ret
        exact ⟨by rw [roomB_no HLk2.out (by rw [HZk.out]; exact hz)]; rfl, hB1⟩
      · have hz' : (z == 1000000000) = false := by simpa using hz
        go_wp2
        go_roundw
        case rel => exact ⟨k + 1, by omega, by go_num, (fun i hi => by
          rcases Nat.lt_succ_iff_lt_or_eq.1 hi with h | h
          · exact HNo.out i h
          · subst h
            rw [HZk.out]
            exact hz), trivial⟩
        case measure => simp [intOf] <;> omega
    · go_wp2
      go_ret
      exact ⟨by rw [roomB_yes (ep := ep) (fun i hi => HNo.out i (by have := HN.out; omega))]; rfl, hB1⟩
theorem l3Room_any {B : Nat} {x y : Value} {vs : List Int} {w : World} (ep : Int) (hx : Ints B x vs w) :
    Calls Tryz.prog 80 #[svv ep x y] w fun e w' => ∃ b, e = .returned (.bool b) ∧ Below w.heap.size w w' := (l3Room_eq ep hx).mono fun _ _ ⟨h1, h2⟩ => ⟨_, h1, h2⟩

abbrev opb (k m : Int) : Obj := .cells #[.int .i64 k, .int .i64 m] 25
/-- Is an op of a right form? -/
def formB (k m : Int) : Bool := if k = 1 ∨ k = 2 then decide (1 ≤ m ∧ m ≤ 20) else decide (k = 3 ∧ m = 0)
set_option maxRecDepth 100000 in
theorem l3Form_eq (k m : Int) (w : World) :
    Calls Tryz.prog 32 #[kv k m] w fun e w' => e = .returned (.bool (formB k m)) ∧ Below w.heap.size w w' := by
  by_cases h1 : k = 1
  · have h1' : (k == 1) = true := by simpa using h1
    have HF := hidS (show formB k m = (decide (1 ≤ m) && decide (m ≤ 20)) by simp [formB, h1])
    go_enter Tryz.func32, Tryz.ntmps32
    go_wp2_with fail
    refine (l1InK_any _ _ _ _).mono ?_
    rintro e w' ⟨rfl, rfl⟩
    go_wp2
    go_ret
    exact ⟨by rw [HF.out]; rfl, one_below _ _⟩
  have h1' : (k == 1) = false := by simpa using h1
  by_cases h2 : k = 2
  · have h2' : (k == 2) = true := by simpa using h2
    have HF := hidS (show formB k m = (decide (1 ≤ m) && decide (m ≤ 20)) by simp [formB, h2])
    go_enter Tryz.func32, Tryz.ntmps32
    go_wp2_with fail
    refine (l1InK_any _ _ _ _).mono ?_
    rintro e w' ⟨rfl, rfl⟩
    go_wp2
    go_ret
    exact ⟨by rw [HF.out]; rfl, one_below _ _⟩
  have h2' : (k == 2) = false := by simpa using h2
  by_cases h3 : k = 3
  · have h3' : (k == 3) = true := by simpa using h3
    by_cases h4 : m = 0
    · have h4' : (m == 0) = true := by simpa using h4
      have HF := hidS (show formB k m = true by simp [formB, h3, h4])
      go_enter Tryz.func32, Tryz.ntmps32
      go_wp2
      go_ret
      exact ⟨by rw [HF.out]; rfl, one_below _ _⟩
    · have h4' : (m == 0) = false := by simpa using h4
      have HF := hidS (show formB k m = false by simp [formB, h1, h2, h4])
      go_enter Tryz.func32, Tryz.ntmps32
      go_wp2
      go_ret
      exact ⟨by rw [HF.out]; rfl, one_below _ _⟩
  have h3' : (k == 3) = false := by simpa using h3
  have HF := hidS (show formB k m = false by simp [formB, h1, h2, h3])
  go_enter Tryz.func32, Tryz.ntmps32
  go_wp2
  go_ret
  exact ⟨by rw [HF.out]; rfl, one_below _ _⟩
theorem l3Form_any (k m : Int) (w : World) :
    Calls Tryz.prog 32 #[kv k m] w fun e w' => ∃ b, e = .returned (.bool b) ∧ Below w.heap.size w w' := (l3Form_eq k m w).mono fun _ _ ⟨h1, h2⟩ => ⟨_, h1, h2⟩
end Go.Proofs.YtapmgbnhobpahaaGreatDoor
/- Contracts of KidsOf, of the program and of the model: both answer the kids of a node, in new memory. -/
namespace Go.Proofs.YtapmgbnhobpahaaGreatDoor
open Go.RowKit

def kids (n : Int) : List Int := if 1 ≤ n ∧ n ≤ 7 then [2 * n, 2 * n + 1] else []
def kidsTo (n : Int) (k : Nat) : List Int := ((List.range k).filter fun j => decide (par j = n)).map fun (j : Nat) => (j : Int)
theorem kidsTo_le (n : Int) (k : Nat) : (kidsTo n k).length ≤ k := by
  unfold kidsTo
  have := List.length_filter_le (fun j => decide (par j = n)) (List.range k)
  simp at this ⊢
  exact this
theorem kidsTo_hit (n : Int) (k : Nat) (h : par k = n) : kidsTo n (k + 1) = kidsTo n k ++ [(k : Int)] := by simp [kidsTo, List.range_succ, h]
theorem kidsTo_miss (n : Int) (k : Nat) (h : par k ≠ n) : kidsTo n (k + 1) = kidsTo n k := by simp [kidsTo, List.range_succ, h]
theorem kidsTo_end (n : Int) (h0 : 1 ≤ n) (h1 : n ≤ 15) : kidsTo n 16 = kids n := by
  have : n = 1 ∨ n = 2 ∨ n = 3 ∨ n = 4 ∨ n = 5 ∨ n = 6 ∨ n = 7 ∨ n = 8 ∨ n = 9 ∨ n = 10 ∨ n = 11 ∨ n = 12 ∨ n = 13 ∨ n = 14 ∨ n = 15 := by omega
  rcases this with rfl | rfl | rfl | rfl | rfl | rfl | rfl | rfl | rfl | rfl | rfl | rfl | rfl | rfl | rfl <;> decide
theorem specKidsOf_any (n : Int) (w : World) :
    Calls Tryz.prog 98 #[.int .i64 n] w fun e w' => ∃ v, e = .returned v ∧ Ints w.heap.size v (kids n) w' ∧ Below w.heap.size w w' := by
  by_cases hn : 1 ≤ n ∧ n ≤ 7
  · have hd : decide (1 ≤ n ∧ n ≤ 7) = true := decide_eq_true hn
    have hk : kids n = [2 * n, 2 * n + 1] := by unfold kids; rw [if_pos hn]
    rw [hk]
    obtain ⟨h1, h2⟩ := hn
    go_enter Tryz.func98, Tryz.ntmps98
    go_wp2_with fail
    refine (l1In_any _ _ _ _).mono ?_
    rintro e w' ⟨rfl, rfl⟩
    rw [hd]
    go_wp2
    go_ret
    exact ⟨_, rfl, World.ownsRow_lit w' #[.int .i64 (2 * n), .int .i64 (2 * n + 1)] 2 (Nat.le_refl _) (by decide) rfl, (Below.refl _ _).alloc (Nat.le_refl _) _⟩
  · have hd : decide (1 ≤ n ∧ n ≤ 7) = false := decide_eq_false hn
    have hk : kids n = [] := by unfold kids; rw [if_neg hn]
    rw [hk]
    go_enter Tryz.func98, Tryz.ntmps98
    go_wp2_with fail
    refine (l1In_any _ _ _ _).mono ?_
    rintro e w' ⟨rfl, rfl⟩
    rw [hd]
    go_wp2
    go_ret
    exact ⟨_, rfl, World.ownsRow_lit w' #[] 0 (Nat.le_refl _) (by decide) rfl, (Below.refl _ _).alloc (Nat.le_refl _) _⟩
end Go.Proofs.YtapmgbnhobpahaaGreatDoor
/- l3Down of the model: wraps appended, and nothing else that was there turns. -/
namespace Go.Proofs.YtapmgbnhobpahaaGreatDoor
open Go.RowKit

theorem rows_ne {r s : RowF} {W : World} (hr : r.on W) (hs : s.on W) (ht : r.t ≠ s.t) : ∀ k, r.v.ownBlock = some k → s.v.ownBlock ≠ some k := fun k e e' => by
  have hat : ∀ {s : RowF}, s.on W → s.v.ownBlock = some k → ∃ cur, W.heap[k]? = some (.cells cur s.t (0, 0)) := fun {s} hs e => by
    rcases hs.2 with ⟨hv, _⟩ | ⟨g, cap, cur, hv, _, hgk, _⟩
    · rw [hv] at e
      simp [Value.ownBlock] at e
    · rw [hv] at e
      simp [Value.ownBlock] at e
      subst e
      exact ⟨cur, hgk⟩
  obtain ⟨c1, h1⟩ := hat hr e
  obtain ⟨c2, h2⟩ := hat hs e'
  rw [h1] at h2
  injection h2 with h2
  injection h2 with _ h2 _
  exact ht h2
theorem row_box {r : RowF} {W : World} {p : Nat} {o : Obj} (hr : r.on W) (ho : W.heap[p]? = some o) (ht : objType o ≠ some r.t) : r.v.ownBlock ≠ some p := fun e => by
  rcases hr.2 with ⟨hv, _⟩ | ⟨g, cap, cur, hv, _, hgk, _⟩
  · rw [hv] at e
    simp [Value.ownBlock] at e
  · rw [hv] at e
    simp [Value.ownBlock] at e
    subst e
    rw [hgk] at ho
    injection ho with ho
    exact ht (by rw [← ho]; rfl)
abbrev fI (B : Nat) (v : Value) (xs : List Int) : RowF := ⟨B, 2, 1, v, xs.length, xs.map (Value.int .i64)⟩
abbrev fS (B : Nat) (v : Value) (ks : List (Int × Int)) : RowF := ⟨B, 114, 2, v, ks.length, kcells ks⟩
abbrev fW (B : Nat) (v : Value) (ks : List W4) : RowF := ⟨B, 56, 4, v, ks.length, wcells ks⟩
abbrev fK (B : Nat) (v : Value) (ks : List (Int × Int)) : RowF := ⟨B, 54, 2, v, ks.length, kcells ks⟩
theorem ne_wi {B C : Nat} {v u : Value} {ws : List W4} {xs : List Int} {W : World} (h : Wraps B v ws W) (h' : Ints C u xs W) : ∀ k, v.ownBlock = some k → u.ownBlock ≠ some k := rows_ne (r := fW B v ws) (s := fI C u xs) h h' (show (56 : TypeId) ≠ 2 by decide)
theorem ne_ws {B C : Nat} {v u : Value} {ws : List W4} {xs : List (Int × Int)} {W : World} (h : Wraps B v ws W) (h' : Seats C u xs W) : ∀ k, v.ownBlock = some k → u.ownBlock ≠ some k := rows_ne (r := fW B v ws) (s := fS C u xs) h h' (show (56 : TypeId) ≠ 114 by decide)
theorem kids_ok (n : Int) : (kids n).length ≤ 2 ∧ (0 < (kids n).length → 1 ≤ n ∧ n ≤ 7) ∧ ∀ i (hi : i < (kids n).length), 1 ≤ (kids n)[i] ∧ (kids n)[i] ≤ 15 := by
  unfold kids
  split
  · rename_i h
    refine ⟨by simp, fun _ => h, fun i hi => ?_⟩
    simp at hi
    rcases (show i = 0 ∨ i = 1 by omega) with rfl | rfl <;> simp <;> omega
  · exact ⟨by simp, fun h => by simp at h, fun i hi => by simp at hi⟩
theorem wrapsS {B : Nat} {v : Value} {ws : List W4} {W W' : World} (h : Wraps B v ws W) (hb : Below W.heap.size W W') : Wraps B v ws W' := RowF.since (r := fW B v ws) h hb
theorem wrapsG {B : Nat} {v : Value} {ws : List W4} {W W' : World} {row : Option Nat} (h : Wraps B v ws W) (hg : W.grownBy W' row) (hne : ∀ k, row = some k → v.ownBlock ≠ some k) : Wraps B v ws W' := RowF.kept (r := fW B v ws) h hg hne
theorem infoW4 : (Tryz.prog.info? 56).map (fun i => (i.zero, i.size, i.bytes)) = some (some (.agg #[.int .i64 0, .int .i64 0, .int .i64 0, .int .i64 0]), 4, 32) := by kernel_rfl

/-- What the loop holds: since w1 nothing has turned but the wraps' block; the wraps lie in a row of their own. -/
def DnIs (w1 : World) (row : Option Nat) (B : Nat) (v : Value) (N : Nat) (W : World) : Prop := w1.grownBy W row ∧ (∃ ws, Wraps B v ws W ∧ ws.length ≤ N) ∧ (∀ k, v.ownBlock = some k → row = some k ∨ w1.heap.size ≤ k)
theorem DnIs.since {w1 W W' : World} {row : Option Nat} {B N : Nat} {v : Value} (h : DnIs w1 row B v N W) (hb : Below W.heap.size W W') : DnIs w1 row B v N W' := by
  obtain ⟨h1, ⟨ws, h2, h4⟩, h3⟩ := h
  exact ⟨h1.trans (grown_below hb row), ⟨ws, wrapsS h2 hb, h4⟩, h3⟩
theorem DnIs.cell {w1 W : World} {row : Option Nat} {B N : Nat} {v u : Value} {a : Addr} (h : DnIs w1 row B v N W) (hc : w1.cell? a = some u) (hne : some a.block ≠ row) : W.cell? a = some u := h.1.cell hc hne
end Go.Proofs.YtapmgbnhobpahaaGreatDoor
/- l3Down of the model. -/
namespace Go.Proofs.YtapmgbnhobpahaaGreatDoor
open Go.RowKit

theorem gr4 {w2 W W' : World} {row : Option Nat} {p1 p2 p3 p4 : Addr} {v1 v2 v3 v4 : Value} (h : W.cell? p1 = some v1 ∧ W.cell? p2 = some v2 ∧ W.cell? p3 = some v3 ∧ W.cell? p4 = some v4 ∧ w2.grownBy W row) (hb : Below W.heap.size W W') :
    W'.cell? p1 = some v1 ∧ W'.cell? p2 = some v2 ∧ W'.cell? p3 = some v3 ∧ W'.cell? p4 = some v4 ∧ w2.grownBy W' row := ⟨cell_since h.1 hb, cell_since h.2.1 hb, cell_since h.2.2.1 hb, cell_since h.2.2.2.1 hb, h.2.2.2.2.trans (grown_below hb row)⟩
theorem grown_via {w2 W W' : World} {row u : Option Nat} (h : w2.grownBy W row) (hg : W.grownBy W' u) (hu : ∀ k, u = some k → row = some k ∨ w2.heap.size ≤ k) : w2.grownBy W' row :=
  ⟨hg.os.trans h.os, hg.tape.trans h.tape, hg.output.trans h.output, Nat.le_trans h.size hg.size, fun k hk hne => by
    rw [hg.block k (Nat.lt_of_lt_of_le hk h.size) (fun e => by rcases hu k e.symm with h' | h'; exact hne h'.symm; omega)]
    exact h.block k hk hne⟩
theorem gr4_app {w2 W W' : World} {row u : Option Nat} {p1 p2 p3 p4 : Addr} {v1 v2 v3 v4 : Value} (h : W.cell? p1 = some v1 ∧ W.cell? p2 = some v2 ∧ W.cell? p3 = some v3 ∧ W.cell? p4 = some v4 ∧ w2.grownBy W row) (hg : W.grownBy W' u) (hu : ∀ k, u = some k → row = some k ∨ w2.heap.size ≤ k)
    (h1 : some p1.block ≠ u) (h2 : some p2.block ≠ u) (h3 : some p3.block ≠ u) (h4 : some p4.block ≠ u) :
    W'.cell? p1 = some v1 ∧ W'.cell? p2 = some v2 ∧ W'.cell? p3 = some v3 ∧ W'.cell? p4 = some v4 ∧ w2.grownBy W' row := ⟨hg.cell h.1 h1, hg.cell h.2.1 h2, hg.cell h.2.2.1 h3, hg.cell h.2.2.2.1 h4, grown_via h.2.2.2.2 hg hu⟩
theorem wrap_cells4 (W : World) (a b c d : Int) : ∀ j u, [Value.int .i64 a, Value.int .i64 b, Value.int .i64 c, Value.int .i64 d][j]? = some u → (W.alloc (.cells #[.int .i64 a, .int .i64 b, .int .i64 c, .int .i64 d] 56)).cell? ((⟨W.heap.size, 0, none⟩ : Addr).add j) = some u := by
  intro j u h
  match j with
  | 0 => simp at h; subst h; simp [Addr.add]
  | 1 => simp at h; subst h; simp [Addr.add]
  | 2 => simp at h; subst h; simp [Addr.add]
  | 3 => simp at h; subst h; simp [Addr.add]
  | j + 4 => simp at h
theorem wraps_of {W : World} {B n : Nat} {v : Value} {ys : List Value} {xs : List W4} (h : W.ownsRow B 56 4 v n ys) (e : ys = wcells xs) (hn : xs.length = n) : Wraps B v xs W := by
  subst e hn
  exact h
theorem wraps_own {W : World} {B n : Nat} {v : Value} {xs : List W4} (h : Wraps B v xs W) (hn : xs.length = n) (o : Obj) : (W.alloc o).ownsRow B 56 4 v n (wcells xs) := by
  subst hn
  exact World.ownsRow.alloc h o
theorem wrapsF {B : Nat} {v : Value} {ws : List W4} {w : World} (h : Wraps B v ws w) : ∃ a c, v = .slice a ws.length c := by
  rcases h.form with ⟨rfl, rfl⟩ | ⟨g, cap, rfl, _⟩ <;> exact ⟨_, _, rfl⟩

theorem dn4 {w1 W W' : World} {row : Option Nat} {B N : Nat} {v : Value} {p1 p2 p3 p4 : Addr} {v1 v2 v3 v4 : Value} (h : W.cell? p1 = some v1 ∧ W.cell? p2 = some v2 ∧ W.cell? p3 = some v3 ∧ W.cell? p4 = some v4 ∧ DnIs w1 row B v N W) (hb : Below W.heap.size W W') :
    W'.cell? p1 = some v1 ∧ W'.cell? p2 = some v2 ∧ W'.cell? p3 = some v3 ∧ W'.cell? p4 = some v4 ∧ DnIs w1 row B v N W' := ⟨cell_since h.1 hb, cell_since h.2.1 hb, cell_since h.2.2.1 hb, cell_since h.2.2.2.1 hb, h.2.2.2.2.since hb⟩

set_option maxRecDepth 100000 in
set_option maxHeartbeats 4000000 in
theorem l3Down_any {A C B : Nat} {x y v : Value} {vs : List Int} {ss : List (Int × Int)} {ws : List W4} {w : World} (ep n : Int) (hn : 1 ≤ n ∧ n ≤ 15) (hl : vs.length = 15) (hx : Ints A x vs w) (hy : Seats C y ss w) (hw : Wraps B v ws w) (hB : B ≤ w.heap.size) (hlen : ws.length ≤ 100) :
    Calls Tryz.prog 84 #[svv ep x y, .int .i64 n, v] w fun e w' => ∃ v' ws', e = .returned v' ∧ Wraps B v' ws' w' ∧ ws'.length ≤ ws.length + 2 ∧ w.grownBy w' v.ownBlock := by
  obtain ⟨i0, hi, hz0, hz1, hz2⟩ := info_parts infoW4
  obtain ⟨c0, c1, c2⟩ := scell3 w ep x y
  have hB1 := one_below w (svb ep x y)
  have HS0 := hidS (show (w.alloc (svb ep x y)).heap.size = w.heap.size + 1 by simp)
  have X1 := hidS (hx.since hB1)
  have Y1 := hidS (hy.since hB1)
  have W1 := hidS (wrapsS hw hB1)
  have hwl : ∀ k, v.ownBlock = some k → k < w.heap.size := fun k e => (hw.lt k e).2
  obtain ⟨n', hn'⟩ : ∃ j : Nat, n = (j : Int) + 1 := ⟨(n - 1).toNat, by omega⟩
  subst hn'
  obtain ⟨hk1, hk2, hk3⟩ := kids_ok ((n' : Int) + 1)
  have hn15 : n' < 15 := by omega
  clear hx hy hw
  go_enter Tryz.func84, Tryz.ntmps84
  go_wp2_with fail
  generalize w.alloc (svb ep x y) = w1 at *
  refine (specKidsOf_any _ _).mono ?_
  rintro e w2 ⟨pv, rfl, hP, b2⟩
  have hB2 := more hB1 b2
  have hs1 := hB1.size
  have hs2 := hB2.size
  have hs12 := b2.size
  obtain ⟨ap, cp, hvp, hmp, hprow⟩ := hP.row
  subst hvp
  have c0 := cell_since c0 b2
  have c1 := cell_since c1 b2
  have c2 := cell_since c2 b2
  have X2 := hidS (X1.out.since b2)
  have Y2 := hidS (Y1.out.since b2)
  have D2 : Hid (DnIs w2 v.ownBlock B v (ws.length + 0) w2) := ⟨World.grownBy.refl _ _, ⟨ws, wrapsS W1.out b2, Nat.le_refl _⟩, fun k e => .inl e⟩
  have HP := hidS hprow
  have HK3 := hidS hk3
  have hvne : ∀ o, some (Addr.block ⟨w.heap.size, o, none⟩) ≠ v.ownBlock := fun o e => by have := hwl _ e.symm; dsimp only at this; omega
  have HG2 := hidS (grown_below hB2 v.ownBlock)
  have hpne : ∀ k, (Value.slice ap (kids ((n' : Int) + 1)).length cp).ownBlock = some k → v.ownBlock ≠ some k := fun k e e' => by have := hwl k e'; have := (hP.lt k e).1; omega
  clear X1 Y1 W1 b2 hP hprow hk3
  generalize kids ((n' : Int) + 1) = kd at *
  generalize hm2 : kd.length = m at hk1 hk2 hmp hpne ⊢
  have HM := hidS hm2
  clear hm2
  go_wp2
  go_loopw [2, 8] (fun wv i wr => ∃ k : Nat, k ≤ m ∧ i = .int .i64 (k : Int) ∧ Hid (DnIs w2 v.ownBlock B wv (ws.length + k) wr)) (fun _ i _ => m - (intOf i).toNat)
  case atStart => exact ⟨0, Nat.zero_le _, rfl, D2⟩
  case round =>
    obtain ⟨k, hk, rfl, HD⟩ := hrel
    by_cases hlt : k < m
    · obtain ⟨gp, hap, hgp, hpseg⟩ : ∃ g, ap = some ⟨g, 0, none⟩ ∧ g < w2.heap.size ∧ ISeg g 0 kd w2 := by
        rcases HP.out with e | e
        · have := HM.out; rw [e] at this; simp at this; omega
        · exact e
      subst hap
      have hkk : k < kd.length := by have := HM.out; omega
      have e1 := hpseg k hkk
      rw [Nat.zero_add] at e1
      have hkb := HK3.out k hkk
      obtain ⟨nd, hnd⟩ : ∃ nd : Nat, kd[k] = (nd : Int) + 1 := ⟨(kd[k] - 1).toNat, by omega⟩
      have hnd15 : nd < 15 := by omega
      rw [hnd] at e1
      clear hpseg hnd hkb
      have q0 := HD.out.cell c0 (hvne 0)
      have q1 := HD.out.cell c1 (hvne 1)
      have q2 := HD.out.cell c2 (hvne 2)
      have q3 := HD.out.cell e1 (fun e => hpne gp rfl e.symm)
      have hXn : ∀ kk, u2.ownBlock = some kk → True := fun _ _ => trivial
      have hX3 : Ints A x vs wr := X2.out.kept HD.out.1 (fun kk e e' => by
        obtain ⟨ws', hw', _⟩ := D2.out.2.1
        exact ne_wi hw' X2.out kk e e')
      have hY3 : Seats C y ss wr := Y2.out.kept HD.out.1 (fun kk e e' => by
        obtain ⟨ws', hw', _⟩ := D2.out.2.1
        exact ne_ws hw' Y2.out kk e e')
      have X3 := hidS (hX3.since (Below.refl _ _).drew)
      have Y3 := hidS (hY3.since (Below.refl _ _).drew)
      have HX3 := hidS hX3
      clear hX3 hY3 hXn e1
      go_wp2
      go_region_held3 (fun W => W.cell? ⟨w.heap.size, 0, none⟩ = some (.int .i64 ep) ∧ W.cell? ⟨w.heap.size, 1, none⟩ = some x ∧ W.cell? ⟨w.heap.size, 2, none⟩ = some y ∧ W.cell? ⟨gp, k, none⟩ = some (.int .i64 ((nd : Int) + 1)) ∧ Below wr.heap.size wr W)
        (first | exact ⟨q0, q1, q2, q3, (Below.refl _ _).drew⟩ | assumption | exact later4 ‹_› b3)
        ((go_at_call 94; refine (l3Some_any ep _ Y3.out).mono ?_; rintro e w3 ⟨sb, rfl, b3⟩))
      all_goals
        rename_i hHeld
        obtain ⟨q0, q1, q2, q3, b3'⟩ := hHeld
        have D3 := hidS (HD.out.since b3')
        have X4 := hidS ((HX3.out.since b3').since (Below.refl _ _).drew)
        clear X3 Y3 HX3 b3
        cases sb with
        | false =>
          go_wp2
          go_roundw
          case rel => exact ⟨k + 1, by omega, by go_num, ⟨D3.out.1, (by obtain ⟨ws', h1, h2⟩ := D3.out.2.1; exact ⟨ws', h1, by omega⟩), D3.out.2.2⟩⟩
          case measure => simp [intOf] <;> omega
        | true =>
          obtain ⟨ws', hw3, hwl3⟩ := D3.out.2.1
          obtain ⟨au, cu, hvu⟩ := wrapsF hw3
          subst hvu
          have HW3 := hidS (wrapsS hw3 (Below.refl _ _).drew)
          have HU := hidS D3.out.2.2
          have HG3 := hidS (grown_drew D3.out.1)
          have hs3 : w2.heap.size ≤ w3.heap.size := D3.out.1.size
          have hne1 : ∀ o, some (Addr.block ⟨w.heap.size, o, none⟩) ≠ (Value.slice au ws'.length cu).ownBlock := fun o e => by
            rcases HU.out _ e.symm with h' | h'
            · exact hvne o h'.symm
            · dsimp only at h'; have := HS0.out; omega
          have hne4 : some (Addr.block ⟨gp, k, none⟩) ≠ (Value.slice au ws'.length cu).ownBlock := fun e => by
            rcases HU.out _ e.symm with h' | h'
            · exact hpne gp rfl h'
            · dsimp only at h'; omega
          clear hw3 b3' D3 HD D2
          have tokA : True := trivial
          generalize hnl : ws'.length = nl at *
          generalize hvj : vAt vs nd = vj at *
          generalize hvn : vAt vs n' = vn at *
          go_wp2
          go_region_held3 (fun W => W.cell? ⟨w.heap.size, 0, none⟩ = some (.int .i64 ep) ∧ W.cell? ⟨w.heap.size, 1, none⟩ = some x ∧ W.cell? ⟨w.heap.size, 2, none⟩ = some y ∧ W.cell? ⟨gp, k, none⟩ = some (.int .i64 ((nd : Int) + 1)) ∧ w2.grownBy W v.ownBlock)
            (first | exact ⟨q0, q1, q2, q3, HG3.out⟩ | exact gr4 ‹_› b5 | exact gr4 ‹_› b6 | exact gr4 ‹_› (one_below _ _) | exact gr4_app ‹_› hgB HU.out (hne1 0) (hne1 1) (hne1 2) hne4 | assumption)
            (first
              | (go_at_call 96; have _t := tokA; clear _t tokA; refine (l3Key_any ep nd hnd15 hl X4.out).mono ?_; rintro e w5 ⟨rfl, b5⟩; rw [hvj]; have hs5 : w3.heap.size ≤ w5.heap.size := b5.size)
              | (go_at_call 96; refine (l3Key_any ep n' hn15 hl (X4.out.since b5)).mono ?_; rintro e w6 ⟨rfl, b6⟩; rw [hvn]; have hs6 := b6.size)
              | (refine step_append_k _ (by rfl) _ _ _ (by rfl) B 56 i0 (.agg #[.int .i64 0, .int .i64 0, .int .i64 0, .int .i64 0]) 4 32 Tryz.underlying30 hi hz0 hz1 hz2 rfl (by omega) (.slice au nl cu) nl _ (by rfl) (by exact wraps_own (wrapsS (wrapsS HW3.out b5) b6) hnl _) ⟨w6.heap.size, 0, none⟩ 1 _ [.int .i64 ((nd : Int) + 1), .int .i64 vj, .int .i64 ((n' : Int) + 1), .int .i64 vn] (by rfl) (by rfl) (by exact wrap_cells4 _ _ _ _ _) (by simp [Value.oneCell']) (by omega) (by unfold maxLen; omega) (by omega) (by simp <;> omega) _ rfl ?_; intro gB cB wB hownB hgB hatB hltB))
          all_goals
            rename_i hHeld
            have HGf := hidS hHeld.2.2.2.2
            have HWn := hidS (wraps_of (xs := ws' ++ [((nd : Int) + 1, vj, (n' : Int) + 1, vn)]) hownB (by rw [wcells_append]; rfl) (by rw [List.length_append, hnl]; rfl))
            have HUn : Hid (∀ kk, (Value.slice (some ⟨gB, 0, none⟩) (nl + 1) cB).ownBlock = some kk → v.ownBlock = some kk ∨ w2.heap.size ≤ kk) := fun kk e => by
              cases e
              rcases hatB with h' | h'
              · exact HU.out gB h'
              · exact .inr (by subst h'; simp only [World.size_alloc]; omega)
            clear hHeld hownB hgB hatB b5 b6 HW3 HU HG3 X4
            go_wp2
            go_roundw
            case rel => exact ⟨k + 1, by omega, by go_num, ⟨HGf.out, ⟨_, HWn.out, by simp [hnl]; omega⟩, HUn.out⟩⟩
            case measure => simp [intOf] <;> omega
    · go_wp2
      go_ret
      obtain ⟨ws', h1, h2⟩ := HD.out.2.1
      exact ⟨_, ws', rfl, h1, by omega, HG2.out.trans HD.out.1⟩
end Go.Proofs.YtapmgbnhobpahaaGreatDoor
/- l3Copy of the model: a server in new memory. -/
namespace Go.Proofs.YtapmgbnhobpahaaGreatDoor
open Go.RowKit

/-- An append of a row, in a region that draws its order; what it appends to is handed on. -/
theorem step_app {P : Program} (w : World) {ops : Array Oper} {o : Oper} {a : Act} {K : Act → World → Prop} {Q : Exit → Act → World → Prop} {E : Prop} (hw : Region.wanted o (yielded ops a.tmps) = true) (s x : Operand) (t : TypeId)
    (ho : o.op = .call { callee := .builtin .append, args := #[s, x], argTypes := #[t, t] })
    (base : Nat) (e : TypeId) (i : TypeInfo) (z : Value) (size bytes : Nat) (ht : P.underlying t = some (.slice e)) (hi : P.info? e = some i) (hz : i.zero = some z)
    (hsize : i.size = size) (hby : i.bytes = bytes) (hzs : z.cells.size = size) (hsz : 0 < size)
    (v : Value) (n : Nat) (xs : List Value) (hs : a.eval s = v) (hown : w.ownsRow base e size v n xs)
    (C : Nat) (xv : Value) (m : Nat) (ys : List Value) (hx : a.eval x = xv) (hsrc : w.ownsRow C e size xv m ys) (h1 : ∀ u ∈ ys, u.oneCell' = true)
    (h63 : n + m ≤ maxLen) (hbytes : (n + m) * bytes ≤ 140737488355328) (hbase : base ≤ w.heap.size)
    (h : w.ownsRow base e size v n xs → ∀ v' w', w'.ownsRow base e size v' (n + m) (xs ++ ys) → w.grownBy w' v.ownBlock → K (a.put o.dst v') w') :
    if Region.wanted o (yielded ops a.tmps) = true then Oper.wp P o a w K Q else E := by
  rw [if_pos hw]
  have h := h hown
  rcases hsrc.2 with ⟨hv, hm⟩ | ⟨g, cap, cur, hv, hb, hg, h1', h2', h3', h4'⟩
  · subst hv hm
    have hys : ys = [] := List.length_eq_zero_iff.1 (by rw [hsrc.1]; simp)
    subst hys
    have hrun := run_append_owned_none (P := P) (w := w) base t o.type e i size ht hi v n xs hown
    unfold Oper.wp
    simp [execOp, ho, resolve, invoke, builtin, hs, hx, hrun, Result.andThen]
    exact h v w (by simpa using hown) (World.grownBy.refl _ _)
  · subst hv
    refine wp_append_own w s x t ho base e i z size bytes ht hi hz hsize hby hzs hsz v n xs hs hown ⟨g, 0, none⟩ m cap ys hx hsrc.1 ?_ h1 h63 hbytes hbase ?_
    · intro j u hu
      have hj : j < m * size := by
        have := (List.getElem?_eq_some_iff.1 hu).1
        rwa [hsrc.1] at this
      rw [Addr.add_mid]
      rw [← h4', List.getElem?_take_of_lt hj] at hu
      simp [World.cell?, hg] at hu ⊢
      exact hu
    · exact fun v' w' h2 h3 _ => h v' w' h2 h3
theorem infoS2 : (Tryz.prog.info? 114).map (fun i => (i.zero, i.size, i.bytes)) = some (some (.agg #[.int .i64 0, .int .i64 0]), 2, 16) := by kernel_rfl
theorem infoI2 : (Tryz.prog.info? 2).map (fun i => (i.zero, i.size, i.bytes)) = some (some (.int .i64 0), 1, 8) := by kernel_rfl
theorem litI (X : World) {H : Nat} (h : H ≤ X.heap.size) : (X.alloc (.cells #[] 2)).ownsRow H 2 1 (.slice (some ⟨X.heap.size, 0, none⟩) 0 0) 0 [] := World.ownsRow_lit X #[] 0 h (by decide) rfl
theorem litS (X : World) {H : Nat} (h : H ≤ X.heap.size) : (X.alloc (.cells #[] 114)).ownsRow H 114 2 (.slice (some ⟨X.heap.size, 0, none⟩) 0 0) 0 [] := World.ownsRow_lit X #[] 0 h (by decide) rfl
/-- A row of numbers stands behind a write into a row of seats; and the other way. -/
theorem keepI {B H n m : Nat} {v u : Value} {xs ys : List Value} {W W' : World} (h : W.ownsRow B 2 1 v n xs) (d : W.ownsRow H 114 2 u m ys) (hg : W.grownBy W' u.ownBlock) : W'.ownsRow B 2 1 v n xs :=
  RowF.kept (r := ⟨B, 2, 1, v, n, xs⟩) h hg (rows_ne (r := ⟨H, 114, 2, u, m, ys⟩) (s := ⟨B, 2, 1, v, n, xs⟩) d h (show (114 : TypeId) ≠ 2 by decide))
theorem keepS {B H n m : Nat} {v u : Value} {xs ys : List Value} {W W' : World} (h : W.ownsRow B 114 2 v n xs) (d : W.ownsRow H 2 1 u m ys) (hg : W.grownBy W' u.ownBlock) : W'.ownsRow B 114 2 v n xs :=
  RowF.kept (r := ⟨B, 114, 2, v, n, xs⟩) h hg (rows_ne (r := ⟨H, 2, 1, u, m, ys⟩) (s := ⟨B, 114, 2, v, n, xs⟩) d h (show (2 : TypeId) ≠ 114 by decide))
theorem one_ints (xs : List Int) : ∀ u ∈ xs.map (Value.int .i64), u.oneCell' = true := by
  intro u hu
  obtain ⟨x, _, rfl⟩ := List.mem_map.1 hu
  rfl

/-- What the statement holds of a world: the argument's cells; nothing below the answer's block has turned; the answer's block is of three cells. -/
def CpS (w1 : World) (R : Nat) (W : World) : Prop := Below R w1 W ∧ (∃ u v x, W.heap[R]? = some (.cells #[u, v, x] 83)) ∧ R < W.heap.size
theorem CpS.since {w1 W W' : World} {R : Nat} (h : CpS w1 R W) (hb : Below W.heap.size W W') : CpS w1 R W' := by
  obtain ⟨h1, ⟨u, v, x, h2⟩, h3⟩ := h
  exact ⟨h1.trans (hb.mono (by omega)), ⟨u, v, x, blkSince h2 hb⟩, by have := hb.size; omega⟩
theorem CpS.grown {w1 W W' : World} {R : Nat} {row : Option Nat} (h : CpS w1 R W) (hg : W.grownBy W' row) (hr : ∀ k, row = some k → R < k) : CpS w1 R W' := by
  obtain ⟨h1, ⟨u, v, x, h2⟩, h3⟩ := h
  exact ⟨h1.grown hg (by omega) (fun k e => by have := hr k e; omega), ⟨u, v, x, (hg.block R h3 (fun e => by have := hr R e.symm; omega)).trans h2⟩, by have := hg.size; omega⟩
theorem CpS.set {w1 W : World} {R o : Nat} {y : Value} (h : CpS w1 R W) (ho : o < 3) : CpS w1 R (W.setCell ⟨R, o, none⟩ y) := by
  obtain ⟨h1, ⟨u, v, x, h2⟩, h3⟩ := h
  refine ⟨h1.setCell (Nat.le_refl _) _, ?_, by simpa [World.setCell] using h3⟩
  rcases (show o = 0 ∨ o = 1 ∨ o = 2 by omega) with rfl | rfl | rfl
  · exact ⟨_, _, _, box3_set0 h2 y⟩
  · exact ⟨_, _, _, box3_set1 h2 y⟩
  · exact ⟨_, _, _, box3_set2 h2 y⟩
theorem cp3 {w1 W W' : World} {R : Nat} {p1 p2 p3 : Addr} {v1 v2 v3 : Value} (h : W.cell? p1 = some v1 ∧ W.cell? p2 = some v2 ∧ W.cell? p3 = some v3 ∧ CpS w1 R W) (hb : Below W.heap.size W W') :
    W'.cell? p1 = some v1 ∧ W'.cell? p2 = some v2 ∧ W'.cell? p3 = some v3 ∧ CpS w1 R W' := ⟨cell_since h.1 hb, cell_since h.2.1 hb, cell_since h.2.2.1 hb, h.2.2.2.since hb⟩
theorem cp3g {w1 W W' : World} {R : Nat} {row : Option Nat} {p1 p2 p3 : Addr} {v1 v2 v3 : Value} (h : W.cell? p1 = some v1 ∧ W.cell? p2 = some v2 ∧ W.cell? p3 = some v3 ∧ CpS w1 R W) (hg : W.grownBy W' row) (hr : ∀ k, row = some k → R < k) (h1 : p1.block < R) (h2 : p2.block < R) (h3 : p3.block < R) :
    W'.cell? p1 = some v1 ∧ W'.cell? p2 = some v2 ∧ W'.cell? p3 = some v3 ∧ CpS w1 R W' :=
  ⟨hg.cell h.1 (fun e => by have := hr _ e.symm; omega), hg.cell h.2.1 (fun e => by have := hr _ e.symm; omega), hg.cell h.2.2.1 (fun e => by have := hr _ e.symm; omega), h.2.2.2.grown hg hr⟩
theorem cp3s {w1 W : World} {R : Nat} {p1 p2 p3 : Addr} {v1 v2 v3 : Value} (h : W.cell? p1 = some v1 ∧ W.cell? p2 = some v2 ∧ W.cell? p3 = some v3 ∧ CpS w1 R W) (h1 : p1.block < R) (h2 : p2.block < R) (h3 : p3.block < R) (a b c : Value) :
    let W' := ((W.setCell ⟨R, 0, none⟩ a).setCell ⟨R, 1, none⟩ b).setCell ⟨R, 2, none⟩ c
    W'.cell? p1 = some v1 ∧ W'.cell? p2 = some v2 ∧ W'.cell? p3 = some v3 ∧ CpS w1 R W' := by
  have hg : ∀ (W : World) o y, W.grownBy (W.setCell ⟨R, o, none⟩ y) (some R) := fun W o y => grown_set W R o y
  have hc : ∀ {p : Addr} {v : Value}, W.cell? p = some v → p.block < R → (((W.setCell ⟨R, 0, none⟩ a).setCell ⟨R, 1, none⟩ b).setCell ⟨R, 2, none⟩ c).cell? p = some v := fun {p v} hp hl =>
    (hg _ 2 c).cell ((hg _ 1 b).cell ((hg W 0 a).cell hp (fun e => by cases e; omega)) (fun e => by cases e; omega)) (fun e => by cases e; omega)
  exact ⟨hc h.1 h1, hc h.2.1 h2, hc h.2.2.1 h3, ((h.2.2.2.set (by omega)).set (by omega)).set (by omega)⟩
end Go.Proofs.YtapmgbnhobpahaaGreatDoor
