/- l3Copy of the model: a server in new memory. -/
import Derived.Test.YtjilbfohfgalkaaPart3
import Derived.Test.YtjilbfohfgalkaaPart0
import Derived.Deep.MidRow
namespace Go.Proofs.Ytjilbfohfgalkaa
open Go.RowKit

/-- An append of a row, in a region that draws its order; what it appends to is handed on. -/
theorem step_app {P : Program} (w : World) {ops : Array Oper} {o : Oper} {a : Act} {K : Act → World → Prop} {Q : Exit → Act → World → Prop} {E : Prop} (hw : Region.wanted o (yielded ops a.tmps) = true) (s x : Operand) (t : TypeId)
    (ho : o.op = .call { callee := .builtin .append, args := #[s, x], argTypes := #[t, t] })
    (base : Nat) (e : TypeId) (i : TypeInfo) (z : Value) (size bytes : Nat) (ht : P.underlying t = some (.slice e)) (hi : P.info? e = some i) (hz : i.zero = some z)
    (hsize : i.size = size) (hby : i.bytes = bytes) (hzs : z.cells.size = size) (hsz : 0 < size)
    (v : Value) (n : Nat) (xs : List Value) (hs : a.eval s = v) (hown : w.ownsRow base e size v n xs)
    (C : Nat) (xv : Value) (m : Nat) (ys : List Value) (hx : a.eval x = xv) (hsrc : w.ownsRow C e size xv m ys) (h1 : ∀ u ∈ ys, u.oneCell' = true)
    (h63 : n + m ≤ maxLen) (hbytes : (n + m) * bytes ≤ 140737488355328) (hbase : base ≤ w.heap.size)
    (h : w.ownsRow base e size v n xs → ∀ v' w', w'.ownsRow base e size v' (n + m) (xs ++ ys) → w.grownBy w' v.ownBlock → K (a.put o.dst v') w') :
    if Region.wanted o (yielded ops a.tmps) = true then Oper.wp P o a w K Q else E := by
  rw [if_pos hw]
  have h := h hown
  rcases hsrc.2 with ⟨hv, hm⟩ | ⟨g, cap, cur, hv, hb, hg, h1', h2', h3', h4'⟩
  · subst hv hm
    have hys : ys = [] := List.length_eq_zero_iff.1 (by rw [hsrc.1]; simp)
    subst hys
    have hrun := run_append_owned_none (P := P) (w := w) base t o.type e i size ht hi v n xs hown
    unfold Oper.wp
    simp [execOp, ho, resolve, invoke, builtin, hs, hx, hrun, Result.andThen]
    exact h v w (by simpa using hown) (World.grownBy.refl _ _)
  · subst hv
    refine wp_append_own w s x t ho base e i z size bytes ht hi hz hsize hby hzs hsz v n xs hs hown ⟨g, 0, none⟩ m cap ys hx hsrc.1 ?_ h1 h63 hbytes hbase ?_
    · intro j u hu
      have hj : j < m * size := by
        have := (List.getElem?_eq_some_iff.1 hu).1
        rwa [hsrc.1] at this
      rw [Addr.add_mid]
      rw [← h4', List.getElem?_take_of_lt hj] at hu
      simp [World.cell?, hg] at hu ⊢
      exact hu
    · exact fun v' w' h2 h3 _ => h v' w' h2 h3
theorem infoS2 : (Try.prog.info? 90).map (fun i => (i.zero, i.size, i.bytes)) = some (some (.agg #[.int .i64 0, .int .i64 0]), 2, 16) := by kernel_rfl
theorem infoI2 : (Try.prog.info? 2).map (fun i => (i.zero, i.size, i.bytes)) = some (some (.int .i64 0), 1, 8) := by kernel_rfl
theorem litI (X : World) {H : Nat} (h : H ≤ X.heap.size) : (X.alloc (.cells #[] 2)).ownsRow H 2 1 (.slice (some ⟨X.heap.size, 0, none⟩) 0 0) 0 [] := World.ownsRow_lit X #[] 0 h (by decide) rfl
theorem litS (X : World) {H : Nat} (h : H ≤ X.heap.size) : (X.alloc (.cells #[] 90)).ownsRow H 90 2 (.slice (some ⟨X.heap.size, 0, none⟩) 0 0) 0 [] := World.ownsRow_lit X #[] 0 h (by decide) rfl
/-- A row of numbers stands behind a write into a row of seats; and the other way. -/
theorem keepI {B H n m : Nat} {v u : Value} {xs ys : List Value} {W W' : World} (h : W.ownsRow B 2 1 v n xs) (d : W.ownsRow H 90 2 u m ys) (hg : W.grownBy W' u.ownBlock) : W'.ownsRow B 2 1 v n xs :=
  RowF.kept (r := ⟨B, 2, 1, v, n, xs⟩) h hg (rows_ne (r := ⟨H, 90, 2, u, m, ys⟩) (s := ⟨B, 2, 1, v, n, xs⟩) d h (show (90 : TypeId) ≠ 2 by decide))
theorem keepS {B H n m : Nat} {v u : Value} {xs ys : List Value} {W W' : World} (h : W.ownsRow B 90 2 v n xs) (d : W.ownsRow H 2 1 u m ys) (hg : W.grownBy W' u.ownBlock) : W'.ownsRow B 90 2 v n xs :=
  RowF.kept (r := ⟨B, 90, 2, v, n, xs⟩) h hg (rows_ne (r := ⟨H, 2, 1, u, m, ys⟩) (s := ⟨B, 90, 2, v, n, xs⟩) d h (show (2 : TypeId) ≠ 90 by decide))
theorem one_ints (xs : List Int) : ∀ u ∈ xs.map (Value.int .i64), u.oneCell' = true := by
  intro u hu
  obtain ⟨x, _, rfl⟩ := List.mem_map.1 hu
  rfl

/-- What the statement holds of a world: the argument's cells; nothing below the answer's block has turned; the answer's block is of three cells. -/
def CpS (w1 : World) (R : Nat) (W : World) : Prop := Below R w1 W ∧ (∃ u v x, W.heap[R]? = some (.cells #[u, v, x] 43)) ∧ R < W.heap.size
theorem CpS.since {w1 W W' : World} {R : Nat} (h : CpS w1 R W) (hb : Below W.heap.size W W') : CpS w1 R W' := by
  obtain ⟨h1, ⟨u, v, x, h2⟩, h3⟩ := h
  exact ⟨h1.trans (hb.mono (by omega)), ⟨u, v, x, blkSince h2 hb⟩, by have := hb.size; omega⟩
theorem CpS.grown {w1 W W' : World} {R : Nat} {row : Option Nat} (h : CpS w1 R W) (hg : W.grownBy W' row) (hr : ∀ k, row = some k → R < k) : CpS w1 R W' := by
  obtain ⟨h1, ⟨u, v, x, h2⟩, h3⟩ := h
  exact ⟨h1.grown hg (by omega) (fun k e => by have := hr k e; omega), ⟨u, v, x, (hg.block R h3 (fun e => by have := hr R e.symm; omega)).trans h2⟩, by have := hg.size; omega⟩
theorem CpS.set {w1 W : World} {R o : Nat} {y : Value} (h : CpS w1 R W) (ho : o < 3) : CpS w1 R (W.setCell ⟨R, o, none⟩ y) := by
  obtain ⟨h1, ⟨u, v, x, h2⟩, h3⟩ := h
  refine ⟨h1.setCell (Nat.le_refl _) _, ?_, by simpa [World.setCell] using h3⟩
  rcases (show o = 0 ∨ o = 1 ∨ o = 2 by omega) with rfl | rfl | rfl
  · exact ⟨_, _, _, box3_set0 h2 y⟩
  · exact ⟨_, _, _, box3_set1 h2 y⟩
  · exact ⟨_, _, _, box3_set2 h2 y⟩
theorem cp3 {w1 W W' : World} {R : Nat} {p1 p2 p3 : Addr} {v1 v2 v3 : Value} (h : W.cell? p1 = some v1 ∧ W.cell? p2 = some v2 ∧ W.cell? p3 = some v3 ∧ CpS w1 R W) (hb : Below W.heap.size W W') :
    W'.cell? p1 = some v1 ∧ W'.cell? p2 = some v2 ∧ W'.cell? p3 = some v3 ∧ CpS w1 R W' := ⟨cell_since h.1 hb, cell_since h.2.1 hb, cell_since h.2.2.1 hb, h.2.2.2.since hb⟩
theorem cp3g {w1 W W' : World} {R : Nat} {row : Option Nat} {p1 p2 p3 : Addr} {v1 v2 v3 : Value} (h : W.cell? p1 = some v1 ∧ W.cell? p2 = some v2 ∧ W.cell? p3 = some v3 ∧ CpS w1 R W) (hg : W.grownBy W' row) (hr : ∀ k, row = some k → R < k) (h1 : p1.block < R) (h2 : p2.block < R) (h3 : p3.block < R) :
    W'.cell? p1 = some v1 ∧ W'.cell? p2 = some v2 ∧ W'.cell? p3 = some v3 ∧ CpS w1 R W' :=
  ⟨hg.cell h.1 (fun e => by have := hr _ e.symm; omega), hg.cell h.2.1 (fun e => by have := hr _ e.symm; omega), hg.cell h.2.2.1 (fun e => by have := hr _ e.symm; omega), h.2.2.2.grown hg hr⟩
theorem cp3s {w1 W : World} {R : Nat} {p1 p2 p3 : Addr} {v1 v2 v3 : Value} (h : W.cell? p1 = some v1 ∧ W.cell? p2 = some v2 ∧ W.cell? p3 = some v3 ∧ CpS w1 R W) (h1 : p1.block < R) (h2 : p2.block < R) (h3 : p3.block < R) (a b c : Value) :
    let W' := ((W.setCell ⟨R, 0, none⟩ a).setCell ⟨R, 1, none⟩ b).setCell ⟨R, 2, none⟩ c
    W'.cell? p1 = some v1 ∧ W'.cell? p2 = some v2 ∧ W'.cell? p3 = some v3 ∧ CpS w1 R W' := by
  have hg : ∀ (W : World) o y, W.grownBy (W.setCell ⟨R, o, none⟩ y) (some R) := fun W o y => grown_set W R o y
  have hc : ∀ {p : Addr} {v : Value}, W.cell? p = some v → p.block < R → (((W.setCell ⟨R, 0, none⟩ a).setCell ⟨R, 1, none⟩ b).setCell ⟨R, 2, none⟩ c).cell? p = some v := fun {p v} hp hl =>
    (hg _ 2 c).cell ((hg _ 1 b).cell ((hg W 0 a).cell hp (fun e => by cases e; omega)) (fun e => by cases e; omega)) (fun e => by cases e; omega)
  exact ⟨hc h.1 h1, hc h.2.1 h2, hc h.2.2.1 h3, ((h.2.2.2.set (by omega)).set (by omega)).set (by omega)⟩
end Go.Proofs.Ytjilbfohfgalkaa
/- The cells of keys, as an append wants them. -/
namespace Go.Proofs.Ytjilbfohfgalkaa
open Go.RowKit

/-- The cells of keys, as an append wants them. -/
theorem news_keys {g off : Nat} {ks : List (Int × Int)} {W : World} (h : KSeg g off ks W) : ∀ j u, (kcells ks)[j]? = some u → W.cell? ((⟨g, off, none⟩ : Addr).add j) = some u := by
  intro j u hu
  have hj : j < ks.length * 2 := by
    have := (List.getElem?_eq_some_iff.1 hu).1
    rwa [kcells_length] at this
  rw [Addr.add_mid]
  have h2 : j = j / 2 * 2 ∨ j = j / 2 * 2 + 1 := by omega
  have hi : j / 2 < ks.length := by omega
  obtain ⟨e1, e2⟩ := kcells_get ks (j / 2) hi
  obtain ⟨c1, c2⟩ := h (j / 2) hi
  rcases h2 with e | e
  · rw [e] at hu ⊢
    rw [e1] at hu
    rw [← hu]
    exact c1
  · rw [e] at hu ⊢
    rw [e2] at hu
    rw [← hu, ← Nat.add_assoc]
    exact c2
theorem one_kcells (ks : List (Int × Int)) : ∀ u ∈ kcells ks, u.oneCell' = true := by
  intro u hu
  simp only [kcells, List.mem_flatMap] at hu
  obtain ⟨x, _, h⟩ := hu
  simp at h
  rcases h with rfl | rfl <;> rfl
end Go.Proofs.Ytjilbfohfgalkaa
/- l3Copy of the model. -/
namespace Go.Proofs.Ytjilbfohfgalkaa
open Go.RowKit

theorem own_zero {W : World} {B m sz : Nat} {e : TypeId} {v : Value} {ys : List Value} (h : W.ownsRow B e sz v (0 + m) ([] ++ ys)) : ∃ a c, v = .slice a m c ∧ W.ownsRow B e sz (.slice a m c) m ys := by
  rw [Nat.zero_add, List.nil_append] at h
  have h' := h
  rcases h.2 with ⟨hv, hm⟩ | ⟨g, cap, cur, hv, _⟩
  · subst hm hv
    exact ⟨_, _, rfl, h'⟩
  · subst hv
    exact ⟨_, _, rfl, h'⟩
theorem litId (X : World) {H : Nat} (h : H ≤ X.heap.size) : (X.alloc (.cells #[] 2)).drew.ownsRow H 2 1 (.slice (some ⟨X.heap.size, 0, none⟩) 0 0) 0 [] := litI X h
theorem litIdd (X : World) (o : Obj) {H : Nat} (h : H ≤ X.heap.size) : ((X.alloc (.cells #[] 2)).alloc o).drew.ownsRow H 2 1 (.slice (some ⟨X.heap.size, 0, none⟩) 0 0) 0 [] := World.ownsRow.alloc (litI X h) o
theorem litSd (X : World) {H : Nat} (h : H ≤ X.heap.size) : (X.alloc (.cells #[] 90)).drew.ownsRow H 90 2 (.slice (some ⟨X.heap.size, 0, none⟩) 0 0) 0 [] := litS X h
theorem litSdd (X : World) (o : Obj) {H : Nat} (h : H ≤ X.heap.size) : ((X.alloc (.cells #[] 90)).alloc o).drew.ownsRow H 90 2 (.slice (some ⟨X.heap.size, 0, none⟩) 0 0) 0 [] := World.ownsRow.alloc (litS X h) o
theorem litIa (X : World) {H S : Nat} (hS : X.heap.size = S) (h : H ≤ S) : (X.alloc (.cells #[] 2)).drew.ownsRow H 2 1 (.slice (some ⟨S, 0, none⟩) 0 0) 0 [] := by
  subst hS
  exact litI X h
theorem litSa (X : World) {H S : Nat} (hS : X.heap.size = S) (h : H ≤ S) : (X.alloc (.cells #[] 90)).drew.ownsRow H 90 2 (.slice (some ⟨S, 0, none⟩) 0 0) 0 [] := by
  subst hS
  exact litS X h
theorem cpOut {w1 W : World} {R : Nat} {p1 p2 p3 : Addr} {v1 v2 v3 : Value} (h : W.cell? p1 = some v1 ∧ W.cell? p2 = some v2 ∧ W.cell? p3 = some v3 ∧ CpS w1 R W) : CpS w1 R W := h.2.2.2
theorem intsIn {A R n : Nat} {x : Value} {vs : List Int} {w w1 W : World} (hx : Ints A x vs w) (hb : Below w.heap.size w w1) (h : CpS w1 R W) (hR : w.heap.size ≤ R) (hn : vs.length = n) : W.ownsRow A 2 1 x n (vs.map (Value.int .i64)) := by
  subst hn
  exact Ints.below (hx.since hb) h.1 (fun k e => Nat.lt_of_lt_of_le (hx.lt k e).2 hR)
theorem seatsIn {A R n : Nat} {x : Value} {vs : List (Int × Int)} {w w1 W : World} (hx : Seats A x vs w) (hb : Below w.heap.size w w1) (h : CpS w1 R W) (hR : w.heap.size ≤ R) (hn : vs.length = n) : W.ownsRow A 90 2 x n (kcells vs) := by
  subst hn
  exact Seats.below (hx.since hb) h.1 (fun k e => Nat.lt_of_lt_of_le (hx.lt k e).2 hR)

set_option maxRecDepth 100000 in
set_option maxHeartbeats 4000000 in
theorem l3Copy_any {A C : Nat} {x y : Value} {vs : List Int} {ss : List (Int × Int)} {w : World} (ep : Int) (hx : Ints A x vs w) (hy : Seats C y ss w) (hl : vs.length ≤ 1000) (hl2 : ss.length ≤ 1000) :
    Calls Try.prog 80 #[svv ep x y] w fun e w' => ∃ x' y', e = .returned (svv ep x' y') ∧ SrvIs w.heap.size x' y' vs ss w' ∧ Below w.heap.size w w' := by
  obtain ⟨iI, hiI, hI0, hI1, hI2⟩ := info_parts infoI2
  obtain ⟨iS, hiS, hS0, hS1, hS2⟩ := info_parts infoS2
  obtain ⟨a, c, hv, _, _⟩ := hx.row
  obtain ⟨a', c', hv', _, _⟩ := hy.row
  subst hv hv'
  have hB1 := two_below w (svb ep (.slice a vs.length c) (.slice a' ss.length c')) (svb 0 (.slice none 0 0) (.slice none 0 0))
  obtain ⟨c0, c1, c2⟩ := scell3 w ep (.slice a vs.length c) (.slice a' ss.length c')
  have d0 := cell_since c0 (one_below _ (svb 0 (.slice none 0 0) (.slice none 0 0)))
  have d1 := cell_since c1 (one_below _ (svb 0 (.slice none 0 0) (.slice none 0 0)))
  have d2 := cell_since c2 (one_below _ (svb 0 (.slice none 0 0) (.slice none 0 0)))
  have t1 : ((w.alloc (svb ep (.slice a vs.length c) (.slice a' ss.length c'))).alloc (svb 0 (.slice none 0 0) (.slice none 0 0))).heap[w.heap.size + 1]? = some (svb 0 (.slice none 0 0) (.slice none 0 0)) := by
    have := heap_alloc_new (w.alloc (svb ep (.slice a vs.length c) (.slice a' ss.length c'))) (svb 0 (.slice none 0 0) (.slice none 0 0))
    simpa using this
  have HS0 := hidS (show ((w.alloc (svb ep (.slice a vs.length c) (.slice a' ss.length c'))).alloc (svb 0 (.slice none 0 0) (.slice none 0 0))).heap.size = w.heap.size + 1 + 1 by simp)
  clear c0 c1 c2
  have HX := hidS hx
  have HY := hidS hy
  clear hx hy
  go_enter Try.func80, Try.ntmps80
  go_wp2
  generalize (w.alloc (svb ep (.slice a vs.length c) (.slice a' ss.length c'))).alloc (svb 0 (.slice none 0 0) (.slice none 0 0)) = w1 at *
  have HB1 := hidS hB1
  have HC1 : Hid (CpS w1 (w.heap.size + 1) w1.drew) := ⟨(Below.refl _ _).drew, ⟨_, _, _, t1⟩, show _ < w1.heap.size by have := HS0.out; omega⟩
  have tI : True := trivial
  have tS : True := trivial
  generalize hn : vs.length = n at *
  generalize hm : ss.length = m at *
  clear hB1 t1
  go_region_held3 (fun W => W.cell? ⟨w.heap.size, 0, none⟩ = some (.int .i64 ep) ∧ W.cell? ⟨w.heap.size, 1, none⟩ = some (.slice a n c) ∧ W.cell? ⟨w.heap.size, 2, none⟩ = some (.slice a' m c') ∧ CpS w1 (w.heap.size + 1) W)
    (first | exact ⟨d0, d1, d2, HC1.out⟩ | exact cp3 ‹_› (one_below _ _) | exact cp3g ‹_› grI hrI (by simp) (by simp) (by simp) | exact cp3g ‹_› grS hrS (by simp) (by simp) (by simp) | exact cp3s ‹_› (by simp) (by simp) (by simp) _ _ _ | assumption)
    (first
      | (have _t := tI; refine step_app _ (by rfl) _ _ _ (by rfl) (w.heap.size + 1 + 1) 2 iI (.int .i64 0) 1 8 Try.underlying40 hiI hI0 hI1 hI2 rfl (by decide) _ 0 [] (by rfl) (by first | exact eI | exact litIa _ (by simp) (by have := HS0.out; omega) | exact litI _ (by have := HS0.out; first | (show _ ≤ w1.heap.size; omega) | (show _ ≤ (w1.heap.push _).size; simp only [Array.size_push]; omega) | omega | (simp only [World.size_alloc]; omega)) | exact World.ownsRow.alloc (litI _ (by have := HS0.out; first | (show _ ≤ w1.heap.size; omega) | (show _ ≤ (w1.heap.push _).size; simp only [Array.size_push]; omega) | omega | (simp only [World.size_alloc]; omega))) _ | exact litId _ (by have := HS0.out; first | (show _ ≤ w1.heap.size; omega) | (show _ ≤ (w1.heap.push _).size; simp only [Array.size_push]; omega) | omega | (simp only [World.size_alloc]; omega)) | exact litIdd _ _ (by have := HS0.out; first | (show _ ≤ w1.heap.size; omega) | (show _ ≤ (w1.heap.push _).size; simp only [Array.size_push]; omega) | omega | (simp only [World.size_alloc]; omega))) A _ n _ (by rfl) (by exact intsIn HX.out HB1.out (cpOut ‹_›) (by omega) hn) (one_ints _) (by unfold maxLen; omega) (by omega) (by have := (cpOut ‹_›).2.2; omega) ?_; clear _t tI; intro dI vI wI kI' grI; obtain ⟨bI, gI, hvI, kI⟩ := own_zero kI'; subst hvI; clear kI'; have hrI : ∀ k, (Value.slice _ 0 0).ownBlock = some k → w.heap.size + 1 < k := fun k e => by { have := (World.ownsRow.lt dI k e).1; omega }; have zI : w.heap.size + 1 + 1 ≤ wI.heap.size := by { have := (cpOut ‹_›).2.2; have := grI.size; omega }; obtain ⟨uR, vR, xR, hR⟩ := (cpOut ‹_›).2.1; have hR := (grI.block (w.heap.size + 1) (cpOut ‹_›).2.2 (fun e => by { have := hrI _ e.symm; omega })).trans hR; obtain ⟨⟨o0, o1, o2⟩, f0, f1, f2⟩ := box3 hR; (first | (have kS := keepS kS dI grI) | (have kS := keepS (World.ownsRow.alloc kS _) dI grI) | skip); (first | (have eS := keepS (litS (H := w.heap.size + 1 + 1) _ (by have := HS0.out; first | (show _ ≤ w1.heap.size; omega) | (show _ ≤ (w1.heap.push _).size; simp only [Array.size_push]; omega) | omega | (simp only [World.size_alloc]; omega))) dI grI; try simp only [World.size_alloc] at eS) | (have eS := keepS (World.ownsRow.alloc (litS (H := w.heap.size + 1 + 1) _ (by have := HS0.out; first | (show _ ≤ w1.heap.size; omega) | (show _ ≤ (w1.heap.push _).size; simp only [Array.size_push]; omega) | omega | (simp only [World.size_alloc]; omega))) _) dI grI; try simp only [World.size_alloc] at eS) | (have eS := keepS (litSd (H := w.heap.size + 1 + 1) _ (by have := HS0.out; first | (show _ ≤ w1.heap.size; omega) | (show _ ≤ (w1.heap.push _).size; simp only [Array.size_push]; omega) | omega | (simp only [World.size_alloc]; omega))) dI grI; try simp only [World.size_alloc] at eS) | (have eS := keepS (litSdd (H := w.heap.size + 1 + 1) _ _ (by have := HS0.out; first | (show _ ≤ w1.heap.size; omega) | (show _ ≤ (w1.heap.push _).size; simp only [Array.size_push]; omega) | omega | (simp only [World.size_alloc]; omega))) dI grI; try simp only [World.size_alloc] at eS) | skip))
      | (have _t := tS; refine step_app _ (by rfl) _ _ _ (by rfl) (w.heap.size + 1 + 1) 90 iS (.agg #[.int .i64 0, .int .i64 0]) 2 16 Try.underlying41 hiS hS0 hS1 hS2 rfl (by decide) _ 0 [] (by rfl) (by first | exact eS | exact litSa _ (by simp) (by have := HS0.out; omega) | exact litS _ (by have := HS0.out; first | (show _ ≤ w1.heap.size; omega) | (show _ ≤ (w1.heap.push _).size; simp only [Array.size_push]; omega) | omega | (simp only [World.size_alloc]; omega)) | exact World.ownsRow.alloc (litS _ (by have := HS0.out; first | (show _ ≤ w1.heap.size; omega) | (show _ ≤ (w1.heap.push _).size; simp only [Array.size_push]; omega) | omega | (simp only [World.size_alloc]; omega))) _ | exact litSd _ (by have := HS0.out; first | (show _ ≤ w1.heap.size; omega) | (show _ ≤ (w1.heap.push _).size; simp only [Array.size_push]; omega) | omega | (simp only [World.size_alloc]; omega)) | exact litSdd _ _ (by have := HS0.out; first | (show _ ≤ w1.heap.size; omega) | (show _ ≤ (w1.heap.push _).size; simp only [Array.size_push]; omega) | omega | (simp only [World.size_alloc]; omega))) C _ m _ (by rfl) (by exact seatsIn HY.out HB1.out (cpOut ‹_›) (by omega) hm) (one_kcells _) (by unfold maxLen; omega) (by omega) (by have := (cpOut ‹_›).2.2; omega) ?_; clear _t tS; intro dS vS wS kS' grS; obtain ⟨bS, gS, hvS, kS⟩ := own_zero kS'; subst hvS; clear kS'; have hrS : ∀ k, (Value.slice _ 0 0).ownBlock = some k → w.heap.size + 1 < k := fun k e => by { have := (World.ownsRow.lt dS k e).1; omega }; have zS : w.heap.size + 1 + 1 ≤ wS.heap.size := by { have := (cpOut ‹_›).2.2; have := grS.size; omega }; obtain ⟨uR, vR, xR, hR⟩ := (cpOut ‹_›).2.1; have hR := (grS.block (w.heap.size + 1) (cpOut ‹_›).2.2 (fun e => by { have := hrS _ e.symm; omega })).trans hR; obtain ⟨⟨o0, o1, o2⟩, f0, f1, f2⟩ := box3 hR; (first | (have kI := keepI kI dS grS) | (have kI := keepI (World.ownsRow.alloc kI _) dS grS) | skip); (first | (have eI := keepI (litI (H := w.heap.size + 1 + 1) _ (by have := HS0.out; first | (show _ ≤ w1.heap.size; omega) | (show _ ≤ (w1.heap.push _).size; simp only [Array.size_push]; omega) | omega | (simp only [World.size_alloc]; omega))) dS grS; try simp only [World.size_alloc] at eI) | (have eI := keepI (World.ownsRow.alloc (litI (H := w.heap.size + 1 + 1) _ (by have := HS0.out; first | (show _ ≤ w1.heap.size; omega) | (show _ ≤ (w1.heap.push _).size; simp only [Array.size_push]; omega) | omega | (simp only [World.size_alloc]; omega))) _) dS grS; try simp only [World.size_alloc] at eI) | (have eI := keepI (litId (H := w.heap.size + 1 + 1) _ (by have := HS0.out; first | (show _ ≤ w1.heap.size; omega) | (show _ ≤ (w1.heap.push _).size; simp only [Array.size_push]; omega) | omega | (simp only [World.size_alloc]; omega))) dS grS; try simp only [World.size_alloc] at eI) | (have eI := keepI (litIdd (H := w.heap.size + 1 + 1) _ _ (by have := HS0.out; first | (show _ ≤ w1.heap.size; omega) | (show _ ≤ (w1.heap.push _).size; simp only [Array.size_push]; omega) | omega | (simp only [World.size_alloc]; omega))) dS grS; try simp only [World.size_alloc] at eI) | skip)))
  all_goals
    rename_i hHeld
    have hC := cpOut hHeld
    clear hHeld
    subst hn hm
    have KI : Ints (w.heap.size + 1 + 1) (.slice bI vs.length gI) vs wS := kI
    have KS : Seats (w.heap.size + 1 + 1) (.slice bS ss.length gS) ss wS := kS
    have hd := rows_ne (r := fI _ _ vs) (s := fS _ _ ss) KI KS (show (2 : TypeId) ≠ 90 by decide)
    have nI : (Value.slice bI vs.length gI).ownBlock ≠ some (w.heap.size + 1) := fun e => by have := (KI.lt _ e).1; omega
    have nS : (Value.slice bS ss.length gS).ownBlock ≠ some (w.heap.size + 1) := fun e => by have := (KS.lt _ e).1; omega
    have HF := hidS (box3_set2 (box3_set1 (box3_set0 hR (.int .i64 ep)) (.slice bI vs.length gI)) (.slice bS ss.length gS))
    have gI' := hidS (intsKeep (o := 2) (intsKeep (o := 1) (intsKeep (o := 0) (KI.mono (show w.heap.size ≤ _ by omega)) (.int .i64 ep) nI) (.slice bI vs.length gI) nI) (.slice bS ss.length gS) nI)
    have gS' := hidS (seatsKeep (o := 2) (seatsKeep (o := 1) (seatsKeep (o := 0) (KS.mono (show w.heap.size ≤ _ by omega)) (.int .i64 ep) nS) (.slice bI vs.length gI) nS) (.slice bS ss.length gS) nS)
    have gB := hidS (HB1.out.trans (hC.1.mono (show w.heap.size ≤ w.heap.size + 1 by omega)))
    have HDs := hidS hd
    clear hC kI kS KI KS nI nS hd dI dS grI grS hrI hrS hR o0 o1 o2 f0 f1 f2 HX HY HC1
    generalize ((wS.setCell ⟨w.heap.size + 1, 0, none⟩ (.int .i64 ep)).setCell ⟨w.heap.size + 1, 1, none⟩ (.slice bI vs.length gI)).setCell ⟨w.heap.size + 1, 2, none⟩ (.slice bS ss.length gS) = WF at *
    go_wp2
    obtain ⟨⟨z0, z1, z2⟩, _, _, _⟩ := box3 HF.out
    exact bodyPost_ret (v := svv ep (.slice bI vs.length gI) (.slice bS ss.length gS)) (by simp [results, Try.results80, go_sem, z0, z1, z2]) rfl ⟨_, _, rfl, ⟨gI'.out, gS'.out, HDs.out⟩, gB.out⟩
end Go.Proofs.Ytjilbfohfgalkaa
/- The bundle with a row that came in and may be written over: nothing else that was there has turned; blocks and rows of one's own lie apart. -/
namespace Go.Proofs.Ytjilbfohfgalkaa
open Go.RowKit

structure Hex (w0 : World) (bs : List (Nat × Obj)) (rs : List RowF) (ex : RowF) (W : World) : Prop where
  bel : w0.grownBy W ex.v.ownBlock
  exOn : ex.on W
  low : ∀ k, ex.v.ownBlock = some k → k < w0.heap.size
  box : ∀ p, p ∈ bs → W.heap[p.1]? = some p.2
  new : ∀ p, p ∈ bs → w0.heap.size ≤ p.1
  nod : bs.Pairwise fun p q => p.1 ≠ q.1
  row : ∀ r, r ∈ rs → r.on W
  fresh : ∀ r, r ∈ rs → w0.heap.size ≤ r.B
  apart : rs.Pairwise fun r s => ∀ k, r.v.ownBlock = some k → s.v.ownBlock ≠ some k
  off : ∀ p, p ∈ bs → ∀ r, r ∈ rs → r.v.ownBlock ≠ some p.1

theorem Hex.start (w : World) {ex : RowF} (h : ex.on w) : Hex w [] [] ex w := ⟨World.grownBy.refl _ _, h, fun k e => (h.lt k e).2, (fun _ h => (by cases h)), (fun _ h => (by cases h)), .nil, (fun _ h => (by cases h)), (fun _ h => (by cases h)), .nil, fun _ h => (by cases h)⟩
section
variable {w0 W W' : World} {bs : List (Nat × Obj)} {rs : List RowF} {ex : RowF}
theorem Hex.since (H : Hex w0 bs rs ex W) (hb : Below W.heap.size W W') : Hex w0 bs rs ex W' :=
  ⟨H.bel.trans (grown_below hb _), RowF.since H.exOn hb, H.low, fun p h => blkSince (H.box p h) hb, H.new, H.nod, fun r h => RowF.since (H.row r h) hb, H.fresh, H.apart, H.off⟩
theorem Hex.drew (H : Hex w0 bs rs ex W) : Hex w0 bs rs ex W.drew := H.since (Below.refl _ _).drew
theorem Hex.drewN (H : Hex w0 bs rs ex W) (n : Nat) : Hex w0 bs rs ex (W.drewN n) := H.since ⟨rfl, rfl, rfl, Nat.le_refl _, fun _ _ => rfl⟩
theorem Hex.sub {bs' : List (Nat × Obj)} {rs' : List RowF} (H : Hex w0 bs rs ex W) (hc : bs'.Sublist bs) (hr : rs'.Sublist rs) : Hex w0 bs' rs' ex W :=
  ⟨H.bel, H.exOn, H.low, fun p h => H.box p (hc.subset h), fun p h => H.new p (hc.subset h), H.nod.sublist hc, fun r h => H.row r (hr.subset h), fun r h => H.fresh r (hr.subset h), H.apart.sublist hr, fun p h r h' => H.off p (hc.subset h) r (hr.subset h')⟩
theorem Hex.alloc (H : Hex w0 bs rs ex W) (o : Obj) : Hex w0 ((W.heap.size, o) :: bs) rs ex (W.alloc o) := by
  have hb : Below W.heap.size W (W.alloc o) := (Below.refl _ _).alloc (Nat.le_refl _) o
  have H' := H.since hb
  refine ⟨H'.bel, H'.exOn, H'.low, ?_, ?_, List.pairwise_cons.2 ⟨fun p hp e => ?_, H'.nod⟩, H'.row, H'.fresh, H'.apart, ?_⟩
  · intro p hp
    rcases List.mem_cons.1 hp with rfl | hp
    · exact heap_alloc_new W o
    · exact H'.box p hp
  · intro p hp
    rcases List.mem_cons.1 hp with rfl | hp
    · exact H.bel.size
    · exact H'.new p hp
  · have := blkLt (H.box p hp)
    dsimp only at e
    omega
  · intro p hp r hr e
    rcases List.mem_cons.1 hp with rfl | hp
    · have := ((H.row r hr).lt _ e).2
      dsimp only at this
      omega
    · exact H'.off p hp r hr e
theorem Hex.add {r : RowF} (H : Hex w0 bs rs ex W) (hb : Below W.heap.size W W') (h : r.on W') (hB : W.heap.size ≤ r.B) : Hex w0 bs (r :: rs) ex W' := by
  have H' := H.since hb
  refine ⟨H'.bel, H'.exOn, H'.low, H'.box, H'.new, H'.nod, ?_, ?_, List.pairwise_cons.2 ⟨fun s hs k e e' => ?_, H'.apart⟩, ?_⟩
  · intro s hs
    rcases List.mem_cons.1 hs with rfl | hs
    · exact h
    · exact H'.row s hs
  · intro s hs
    rcases List.mem_cons.1 hs with rfl | hs
    · exact Nat.le_trans H.bel.size hB
    · exact H'.fresh s hs
  · have h1 := (h.lt k e).1
    have h2 := ((H.row s hs).lt k e').2
    omega
  · intro p hp s hs e
    rcases List.mem_cons.1 hs with rfl | hs
    · have h1 := (h.lt _ e).1
      have h2 := blkLt (H.box p hp)
      omega
    · exact H'.off p hp s hs e
/-- A store into a block of one's own. -/
theorem Hex.set {pre post : List (Nat × Obj)} {p j : Nat} {o o' : Obj} {x : Value} (H : Hex w0 (pre ++ (p, o) :: post) rs ex W) (ho : (W.setCell ⟨p, j, none⟩ x).heap[p]? = some o') : Hex w0 (pre ++ (p, o') :: post) rs ex (W.setCell ⟨p, j, none⟩ x) := by
  have hmid : (p, o) ∈ pre ++ (p, o) :: post := List.mem_append_right _ (.head _)
  have hnd := List.pairwise_append.1 H.nod
  have hnd2 := List.pairwise_cons.1 hnd.2.1
  have hg : W.grownBy (W.setCell ⟨p, j, none⟩ x) (some p) := grown_set W p j x
  have hpn : w0.heap.size ≤ p := H.new _ hmid
  have hmem : ∀ q, q ∈ pre ++ (p, o') :: post → q = (p, o') ∨ (q ∈ pre ++ (p, o) :: post ∧ q.1 ≠ p) := fun q hq => by
    rcases List.mem_append.1 hq with hq | hq
    · exact .inr ⟨List.mem_append_left _ hq, hnd.2.2 q hq (p, o) (.head _)⟩
    · rcases List.mem_cons.1 hq with rfl | hq
      · exact .inl rfl
      · exact .inr ⟨List.mem_append_right _ (.tail _ hq), fun e => hnd2.1 q hq e.symm⟩
  refine ⟨grown_out H.bel p j x hpn, RowF.kept H.exOn hg (fun k e e' => by cases e; have := H.low _ e'; omega), H.low, ?_, ?_, ?_, ?_, H.fresh, H.apart, ?_⟩
  · intro q hq
    rcases hmem q hq with rfl | ⟨hq, hne⟩
    · exact ho
    · rw [hg.block q.1 (blkLt (H.box q hq)) (fun e => hne (by cases e; rfl))]
      exact H.box q hq
  · intro q hq
    rcases hmem q hq with rfl | ⟨hq, _⟩
    · exact hpn
    · exact H.new q hq
  · refine List.pairwise_append.2 ⟨hnd.1, List.pairwise_cons.2 ⟨fun q hq => hnd2.1 q hq, hnd2.2⟩, fun q hq y hy => ?_⟩
    rcases List.mem_cons.1 hy with rfl | hy
    · exact hnd.2.2 q hq (p, o) (.head _)
    · exact hnd.2.2 q hq y (.tail _ hy)
  · exact fun r hr => RowF.kept (H.row r hr) hg (fun k e e' => by cases e; exact H.off _ hmid r hr e')
  · intro q hq r hr
    rcases hmem q hq with rfl | ⟨hq, _⟩
    · exact H.off (p, o) hmid r hr
    · exact H.off q hq r hr
/-- A row of one's own, written over or grown, of a type that nothing else has. -/
theorem Hex.turn {pre post : List RowF} {r r' : RowF} (H : Hex w0 bs (pre ++ r :: post) ex W) (hg : W.grownBy W' r.v.ownBlock) (h : r'.on W') (hB : r'.B = r.B)
    (hd : (∀ s, s ∈ pre ++ post → s.t ≠ r'.t) ∧ ∀ p, p ∈ bs → objType p.2 ≠ some r'.t) : Hex w0 bs (pre ++ r' :: post) ex W' := by
  have hmid : r ∈ pre ++ r :: post := List.mem_append_right _ (.head _)
  have hap := List.pairwise_append.1 H.apart
  have hap2 := List.pairwise_cons.1 hap.2.1
  have hin : ∀ s, s ∈ pre ++ post → s ∈ pre ++ r :: post := fun s hs => by
    rcases List.mem_append.1 hs with hs | hs
    · exact List.mem_append_left _ hs
    · exact List.mem_append_right _ (.tail _ hs)
  have hdis : ∀ s, s ∈ pre ++ post → ∀ k, r.v.ownBlock = some k → s.v.ownBlock ≠ some k := fun s hs k e e' => by
    rcases List.mem_append.1 hs with hs | hs
    · exact hap.2.2 s hs r (.head _) k e' e
    · exact hap2.1 s hs k e e'
  have hlow : ∀ k, r.v.ownBlock = some k → w0.heap.size ≤ k := fun k e => Nat.le_trans (H.fresh r hmid) ((H.row r hmid).lt k e).1
  have hbox : ∀ p, p ∈ bs → W'.heap[p.1]? = some p.2 := fun p hp => by
    rw [hg.block p.1 (blkLt (H.box p hp)) (fun e => H.off p hp r hmid e.symm)]
    exact H.box p hp
  have hrow : ∀ s, s ∈ pre ++ post → s.on W' := fun s hs => RowF.kept (H.row s (hin s hs)) hg (hdis s hs)
  have hmem : ∀ s, s ∈ pre ++ r' :: post → s = r' ∨ s ∈ pre ++ post := fun s hs => by
    rcases List.mem_append.1 hs with hs | hs
    · exact .inr (List.mem_append_left _ hs)
    · rcases List.mem_cons.1 hs with hs | hs
      · exact .inl hs
      · exact .inr (List.mem_append_right _ hs)
  have hdis' : ∀ s, s ∈ pre ++ post → ∀ k, r'.v.ownBlock = some k → s.v.ownBlock ≠ some k := fun s hs => rows_ne h (hrow s hs) (fun e => hd.1 s hs e.symm)
  refine ⟨grown_via H.bel hg (fun k e => .inr (hlow k e)), RowF.kept H.exOn hg (fun k e e' => by have := hlow k e; have := H.low k e'; omega), H.low, hbox, H.new, H.nod, ?_, ?_, ?_, ?_⟩
  · intro s hs
    rcases hmem s hs with rfl | hs
    · exact h
    · exact hrow s hs
  · intro s hs
    rcases hmem s hs with rfl | hs
    · rw [hB]
      exact H.fresh r hmid
    · exact H.fresh s (hin s hs)
  · refine List.pairwise_append.2 ⟨hap.1, List.pairwise_cons.2 ⟨fun s hs => hdis' s (List.mem_append_right _ hs), hap2.2⟩, fun s hs x hx => ?_⟩
    rcases List.mem_cons.1 hx with rfl | hx
    · exact fun k e e' => hdis' s (List.mem_append_left _ hs) k e' e
    · exact hap.2.2 s hs x (.tail _ hx)
  · intro p hp s hs
    rcases hmem s hs with rfl | hs
    · exact row_box h (hbox p hp) (hd.2 p hp)
    · exact H.off p hp s (hin s hs)
/-- What came in is written over. -/
theorem Hex.mut {ex' : RowF} (H : Hex w0 bs rs ex W) (hg : W.grownBy W' ex.v.ownBlock) (h : ex'.on W') (hv : ex'.v = ex.v) : Hex w0 bs rs ex' W' := by
  refine ⟨by rw [hv]; exact H.bel.trans hg, h, by rw [hv]; exact H.low, fun p hp => ?_, H.new, H.nod, fun r hr => ?_, H.fresh, H.apart, H.off⟩
  · rw [hg.block p.1 (blkLt (H.box p hp)) (fun e => by have := H.low _ e.symm; have := H.new p hp; omega)]
    exact H.box p hp
  · exact RowF.kept (H.row r hr) hg (fun k e e' => by have := H.low k e; have := ((H.row r hr).lt k e').1; have := H.fresh r hr; omega)
end
end Go.Proofs.Ytjilbfohfgalkaa
/- The bundle's blocks and rows by their places. -/
namespace Go.Proofs.Ytjilbfohfgalkaa
open Go.RowKit

theorem Hex.b0 {w0 W : World} {bs : List (Nat × Obj)} {rs : List RowF} {ex : RowF} {p : Nat} {o : Obj} (H : Hex w0 ((p, o) :: bs) rs ex W) : W.heap[p]? = some o := H.box (p, o) (.head _)
theorem Hex.p0 {w0 W : World} {bs : List (Nat × Obj)} {rs : List RowF} {ex : RowF} {p : Nat} {o : Obj} (H : Hex w0 ((p, o) :: bs) rs ex W) : w0.heap.size ≤ p := H.new (p, o) (.head _)
theorem Hex.set0 {w0 W : World} {bs : List (Nat × Obj)} {rs : List RowF} {ex : RowF} {p j : Nat} {o o' : Obj} {x : Value} (H : Hex w0 ((p, o) :: bs) rs ex W) (ho : (W.setCell ⟨p, j, none⟩ x).heap[p]? = some o') : Hex w0 ((p, o') :: bs) rs ex (W.setCell ⟨p, j, none⟩ x) := Hex.set (pre := []) H ho
theorem Hex.s200 {w0 W : World} {bs : List (Nat × Obj)} {rs : List RowF} {ex : RowF} {p : Nat} {u v : Value} {t : TypeId} (H : Hex w0 ((p, .cells #[u, v] t) :: bs) rs ex W) (y : Value) : Hex w0 ((p, .cells #[y, v] t) :: bs) rs ex (W.setCell ⟨p, 0, none⟩ y) := H.set0 (by simp [World.setCell, Array.getElem?_modify, H.b0])
theorem Hex.s201 {w0 W : World} {bs : List (Nat × Obj)} {rs : List RowF} {ex : RowF} {p : Nat} {u v : Value} {t : TypeId} (H : Hex w0 ((p, .cells #[u, v] t) :: bs) rs ex W) (y : Value) : Hex w0 ((p, .cells #[u, y] t) :: bs) rs ex (W.setCell ⟨p, 1, none⟩ y) := H.set0 (by simp [World.setCell, Array.getElem?_modify, H.b0])
theorem Hex.s300 {w0 W : World} {bs : List (Nat × Obj)} {rs : List RowF} {ex : RowF} {p : Nat} {u v x : Value} {t : TypeId} (H : Hex w0 ((p, .cells #[u, v, x] t) :: bs) rs ex W) (y : Value) : Hex w0 ((p, .cells #[y, v, x] t) :: bs) rs ex (W.setCell ⟨p, 0, none⟩ y) := H.set0 (by simp [World.setCell, Array.getElem?_modify, H.b0])
theorem Hex.s301 {w0 W : World} {bs : List (Nat × Obj)} {rs : List RowF} {ex : RowF} {p : Nat} {u v x : Value} {t : TypeId} (H : Hex w0 ((p, .cells #[u, v, x] t) :: bs) rs ex W) (y : Value) : Hex w0 ((p, .cells #[u, y, x] t) :: bs) rs ex (W.setCell ⟨p, 1, none⟩ y) := H.set0 (by simp [World.setCell, Array.getElem?_modify, H.b0])
theorem Hex.s302 {w0 W : World} {bs : List (Nat × Obj)} {rs : List RowF} {ex : RowF} {p : Nat} {u v x : Value} {t : TypeId} (H : Hex w0 ((p, .cells #[u, v, x] t) :: bs) rs ex W) (y : Value) : Hex w0 ((p, .cells #[u, v, y] t) :: bs) rs ex (W.setCell ⟨p, 2, none⟩ y) := H.set0 (by simp [World.setCell, Array.getElem?_modify, H.b0])
theorem Hex.dropb0 {w0 W : World} {bs : List (Nat × Obj)} {rs : List RowF} {ex : RowF} {p : Nat × Obj} (H : Hex w0 (p :: bs) rs ex W) : Hex w0 (bs) rs ex W := H.sub (.cons _ (List.Sublist.refl _)) (List.Sublist.refl _)
theorem Hex.b1 {w0 W : World} {bs : List (Nat × Obj)} {rs : List RowF} {ex : RowF} {x0 : Nat × Obj} {p : Nat} {o : Obj} (H : Hex w0 (x0 :: (p, o) :: bs) rs ex W) : W.heap[p]? = some o := H.box (p, o) (.tail _ (.head _))
theorem Hex.p1 {w0 W : World} {bs : List (Nat × Obj)} {rs : List RowF} {ex : RowF} {x0 : Nat × Obj} {p : Nat} {o : Obj} (H : Hex w0 (x0 :: (p, o) :: bs) rs ex W) : w0.heap.size ≤ p := H.new (p, o) (.tail _ (.head _))
theorem Hex.set1 {w0 W : World} {bs : List (Nat × Obj)} {rs : List RowF} {ex : RowF} {x0 : Nat × Obj} {p j : Nat} {o o' : Obj} {x : Value} (H : Hex w0 (x0 :: (p, o) :: bs) rs ex W) (ho : (W.setCell ⟨p, j, none⟩ x).heap[p]? = some o') : Hex w0 (x0 :: (p, o') :: bs) rs ex (W.setCell ⟨p, j, none⟩ x) := Hex.set (pre := [x0]) H ho
theorem Hex.s210 {w0 W : World} {bs : List (Nat × Obj)} {rs : List RowF} {ex : RowF} {x0 : Nat × Obj} {p : Nat} {u v : Value} {t : TypeId} (H : Hex w0 (x0 :: (p, .cells #[u, v] t) :: bs) rs ex W) (y : Value) : Hex w0 (x0 :: (p, .cells #[y, v] t) :: bs) rs ex (W.setCell ⟨p, 0, none⟩ y) := H.set1 (by simp [World.setCell, Array.getElem?_modify, H.b1])
theorem Hex.s211 {w0 W : World} {bs : List (Nat × Obj)} {rs : List RowF} {ex : RowF} {x0 : Nat × Obj} {p : Nat} {u v : Value} {t : TypeId} (H : Hex w0 (x0 :: (p, .cells #[u, v] t) :: bs) rs ex W) (y : Value) : Hex w0 (x0 :: (p, .cells #[u, y] t) :: bs) rs ex (W.setCell ⟨p, 1, none⟩ y) := H.set1 (by simp [World.setCell, Array.getElem?_modify, H.b1])
theorem Hex.s310 {w0 W : World} {bs : List (Nat × Obj)} {rs : List RowF} {ex : RowF} {x0 : Nat × Obj} {p : Nat} {u v x : Value} {t : TypeId} (H : Hex w0 (x0 :: (p, .cells #[u, v, x] t) :: bs) rs ex W) (y : Value) : Hex w0 (x0 :: (p, .cells #[y, v, x] t) :: bs) rs ex (W.setCell ⟨p, 0, none⟩ y) := H.set1 (by simp [World.setCell, Array.getElem?_modify, H.b1])
theorem Hex.s311 {w0 W : World} {bs : List (Nat × Obj)} {rs : List RowF} {ex : RowF} {x0 : Nat × Obj} {p : Nat} {u v x : Value} {t : TypeId} (H : Hex w0 (x0 :: (p, .cells #[u, v, x] t) :: bs) rs ex W) (y : Value) : Hex w0 (x0 :: (p, .cells #[u, y, x] t) :: bs) rs ex (W.setCell ⟨p, 1, none⟩ y) := H.set1 (by simp [World.setCell, Array.getElem?_modify, H.b1])
theorem Hex.s312 {w0 W : World} {bs : List (Nat × Obj)} {rs : List RowF} {ex : RowF} {x0 : Nat × Obj} {p : Nat} {u v x : Value} {t : TypeId} (H : Hex w0 (x0 :: (p, .cells #[u, v, x] t) :: bs) rs ex W) (y : Value) : Hex w0 (x0 :: (p, .cells #[u, v, y] t) :: bs) rs ex (W.setCell ⟨p, 2, none⟩ y) := H.set1 (by simp [World.setCell, Array.getElem?_modify, H.b1])
theorem Hex.dropb1 {w0 W : World} {bs : List (Nat × Obj)} {rs : List RowF} {ex : RowF} {x0 : Nat × Obj} {p : Nat × Obj} (H : Hex w0 (x0 :: p :: bs) rs ex W) : Hex w0 (x0 :: bs) rs ex W := H.sub (.cons_cons _ (.cons _ (List.Sublist.refl _))) (List.Sublist.refl _)
theorem Hex.b2 {w0 W : World} {bs : List (Nat × Obj)} {rs : List RowF} {ex : RowF} {x0 x1 : Nat × Obj} {p : Nat} {o : Obj} (H : Hex w0 (x0 :: x1 :: (p, o) :: bs) rs ex W) : W.heap[p]? = some o := H.box (p, o) (.tail _ (.tail _ (.head _)))
theorem Hex.p2 {w0 W : World} {bs : List (Nat × Obj)} {rs : List RowF} {ex : RowF} {x0 x1 : Nat × Obj} {p : Nat} {o : Obj} (H : Hex w0 (x0 :: x1 :: (p, o) :: bs) rs ex W) : w0.heap.size ≤ p := H.new (p, o) (.tail _ (.tail _ (.head _)))
theorem Hex.set2 {w0 W : World} {bs : List (Nat × Obj)} {rs : List RowF} {ex : RowF} {x0 x1 : Nat × Obj} {p j : Nat} {o o' : Obj} {x : Value} (H : Hex w0 (x0 :: x1 :: (p, o) :: bs) rs ex W) (ho : (W.setCell ⟨p, j, none⟩ x).heap[p]? = some o') : Hex w0 (x0 :: x1 :: (p, o') :: bs) rs ex (W.setCell ⟨p, j, none⟩ x) := Hex.set (pre := [x0, x1]) H ho
theorem Hex.s220 {w0 W : World} {bs : List (Nat × Obj)} {rs : List RowF} {ex : RowF} {x0 x1 : Nat × Obj} {p : Nat} {u v : Value} {t : TypeId} (H : Hex w0 (x0 :: x1 :: (p, .cells #[u, v] t) :: bs) rs ex W) (y : Value) : Hex w0 (x0 :: x1 :: (p, .cells #[y, v] t) :: bs) rs ex (W.setCell ⟨p, 0, none⟩ y) := H.set2 (by simp [World.setCell, Array.getElem?_modify, H.b2])
theorem Hex.s221 {w0 W : World} {bs : List (Nat × Obj)} {rs : List RowF} {ex : RowF} {x0 x1 : Nat × Obj} {p : Nat} {u v : Value} {t : TypeId} (H : Hex w0 (x0 :: x1 :: (p, .cells #[u, v] t) :: bs) rs ex W) (y : Value) : Hex w0 (x0 :: x1 :: (p, .cells #[u, y] t) :: bs) rs ex (W.setCell ⟨p, 1, none⟩ y) := H.set2 (by simp [World.setCell, Array.getElem?_modify, H.b2])
theorem Hex.s320 {w0 W : World} {bs : List (Nat × Obj)} {rs : List RowF} {ex : RowF} {x0 x1 : Nat × Obj} {p : Nat} {u v x : Value} {t : TypeId} (H : Hex w0 (x0 :: x1 :: (p, .cells #[u, v, x] t) :: bs) rs ex W) (y : Value) : Hex w0 (x0 :: x1 :: (p, .cells #[y, v, x] t) :: bs) rs ex (W.setCell ⟨p, 0, none⟩ y) := H.set2 (by simp [World.setCell, Array.getElem?_modify, H.b2])
theorem Hex.s321 {w0 W : World} {bs : List (Nat × Obj)} {rs : List RowF} {ex : RowF} {x0 x1 : Nat × Obj} {p : Nat} {u v x : Value} {t : TypeId} (H : Hex w0 (x0 :: x1 :: (p, .cells #[u, v, x] t) :: bs) rs ex W) (y : Value) : Hex w0 (x0 :: x1 :: (p, .cells #[u, y, x] t) :: bs) rs ex (W.setCell ⟨p, 1, none⟩ y) := H.set2 (by simp [World.setCell, Array.getElem?_modify, H.b2])
theorem Hex.s322 {w0 W : World} {bs : List (Nat × Obj)} {rs : List RowF} {ex : RowF} {x0 x1 : Nat × Obj} {p : Nat} {u v x : Value} {t : TypeId} (H : Hex w0 (x0 :: x1 :: (p, .cells #[u, v, x] t) :: bs) rs ex W) (y : Value) : Hex w0 (x0 :: x1 :: (p, .cells #[u, v, y] t) :: bs) rs ex (W.setCell ⟨p, 2, none⟩ y) := H.set2 (by simp [World.setCell, Array.getElem?_modify, H.b2])
theorem Hex.dropb2 {w0 W : World} {bs : List (Nat × Obj)} {rs : List RowF} {ex : RowF} {x0 x1 : Nat × Obj} {p : Nat × Obj} (H : Hex w0 (x0 :: x1 :: p :: bs) rs ex W) : Hex w0 (x0 :: x1 :: bs) rs ex W := H.sub (.cons_cons _ (.cons_cons _ (.cons _ (List.Sublist.refl _)))) (List.Sublist.refl _)
theorem Hex.b3 {w0 W : World} {bs : List (Nat × Obj)} {rs : List RowF} {ex : RowF} {x0 x1 x2 : Nat × Obj} {p : Nat} {o : Obj} (H : Hex w0 (x0 :: x1 :: x2 :: (p, o) :: bs) rs ex W) : W.heap[p]? = some o := H.box (p, o) (.tail _ (.tail _ (.tail _ (.head _))))
theorem Hex.p3 {w0 W : World} {bs : List (Nat × Obj)} {rs : List RowF} {ex : RowF} {x0 x1 x2 : Nat × Obj} {p : Nat} {o : Obj} (H : Hex w0 (x0 :: x1 :: x2 :: (p, o) :: bs) rs ex W) : w0.heap.size ≤ p := H.new (p, o) (.tail _ (.tail _ (.tail _ (.head _))))
theorem Hex.set3 {w0 W : World} {bs : List (Nat × Obj)} {rs : List RowF} {ex : RowF} {x0 x1 x2 : Nat × Obj} {p j : Nat} {o o' : Obj} {x : Value} (H : Hex w0 (x0 :: x1 :: x2 :: (p, o) :: bs) rs ex W) (ho : (W.setCell ⟨p, j, none⟩ x).heap[p]? = some o') : Hex w0 (x0 :: x1 :: x2 :: (p, o') :: bs) rs ex (W.setCell ⟨p, j, none⟩ x) := Hex.set (pre := [x0, x1, x2]) H ho
theorem Hex.s230 {w0 W : World} {bs : List (Nat × Obj)} {rs : List RowF} {ex : RowF} {x0 x1 x2 : Nat × Obj} {p : Nat} {u v : Value} {t : TypeId} (H : Hex w0 (x0 :: x1 :: x2 :: (p, .cells #[u, v] t) :: bs) rs ex W) (y : Value) : Hex w0 (x0 :: x1 :: x2 :: (p, .cells #[y, v] t) :: bs) rs ex (W.setCell ⟨p, 0, none⟩ y) := H.set3 (by simp [World.setCell, Array.getElem?_modify, H.b3])
theorem Hex.s231 {w0 W : World} {bs : List (Nat × Obj)} {rs : List RowF} {ex : RowF} {x0 x1 x2 : Nat × Obj} {p : Nat} {u v : Value} {t : TypeId} (H : Hex w0 (x0 :: x1 :: x2 :: (p, .cells #[u, v] t) :: bs) rs ex W) (y : Value) : Hex w0 (x0 :: x1 :: x2 :: (p, .cells #[u, y] t) :: bs) rs ex (W.setCell ⟨p, 1, none⟩ y) := H.set3 (by simp [World.setCell, Array.getElem?_modify, H.b3])
theorem Hex.s330 {w0 W : World} {bs : List (Nat × Obj)} {rs : List RowF} {ex : RowF} {x0 x1 x2 : Nat × Obj} {p : Nat} {u v x : Value} {t : TypeId} (H : Hex w0 (x0 :: x1 :: x2 :: (p, .cells #[u, v, x] t) :: bs) rs ex W) (y : Value) : Hex w0 (x0 :: x1 :: x2 :: (p, .cells #[y, v, x] t) :: bs) rs ex (W.setCell ⟨p, 0, none⟩ y) := H.set3 (by simp [World.setCell, Array.getElem?_modify, H.b3])
theorem Hex.s331 {w0 W : World} {bs : List (Nat × Obj)} {rs : List RowF} {ex : RowF} {x0 x1 x2 : Nat × Obj} {p : Nat} {u v x : Value} {t : TypeId} (H : Hex w0 (x0 :: x1 :: x2 :: (p, .cells #[u, v, x] t) :: bs) rs ex W) (y : Value) : Hex w0 (x0 :: x1 :: x2 :: (p, .cells #[u, y, x] t) :: bs) rs ex (W.setCell ⟨p, 1, none⟩ y) := H.set3 (by simp [World.setCell, Array.getElem?_modify, H.b3])
theorem Hex.s332 {w0 W : World} {bs : List (Nat × Obj)} {rs : List RowF} {ex : RowF} {x0 x1 x2 : Nat × Obj} {p : Nat} {u v x : Value} {t : TypeId} (H : Hex w0 (x0 :: x1 :: x2 :: (p, .cells #[u, v, x] t) :: bs) rs ex W) (y : Value) : Hex w0 (x0 :: x1 :: x2 :: (p, .cells #[u, v, y] t) :: bs) rs ex (W.setCell ⟨p, 2, none⟩ y) := H.set3 (by simp [World.setCell, Array.getElem?_modify, H.b3])
theorem Hex.dropb3 {w0 W : World} {bs : List (Nat × Obj)} {rs : List RowF} {ex : RowF} {x0 x1 x2 : Nat × Obj} {p : Nat × Obj} (H : Hex w0 (x0 :: x1 :: x2 :: p :: bs) rs ex W) : Hex w0 (x0 :: x1 :: x2 :: bs) rs ex W := H.sub (.cons_cons _ (.cons_cons _ (.cons_cons _ (.cons _ (List.Sublist.refl _))))) (List.Sublist.refl _)
theorem Hex.b4 {w0 W : World} {bs : List (Nat × Obj)} {rs : List RowF} {ex : RowF} {x0 x1 x2 x3 : Nat × Obj} {p : Nat} {o : Obj} (H : Hex w0 (x0 :: x1 :: x2 :: x3 :: (p, o) :: bs) rs ex W) : W.heap[p]? = some o := H.box (p, o) (.tail _ (.tail _ (.tail _ (.tail _ (.head _)))))
theorem Hex.p4 {w0 W : World} {bs : List (Nat × Obj)} {rs : List RowF} {ex : RowF} {x0 x1 x2 x3 : Nat × Obj} {p : Nat} {o : Obj} (H : Hex w0 (x0 :: x1 :: x2 :: x3 :: (p, o) :: bs) rs ex W) : w0.heap.size ≤ p := H.new (p, o) (.tail _ (.tail _ (.tail _ (.tail _ (.head _)))))
theorem Hex.set4 {w0 W : World} {bs : List (Nat × Obj)} {rs : List RowF} {ex : RowF} {x0 x1 x2 x3 : Nat × Obj} {p j : Nat} {o o' : Obj} {x : Value} (H : Hex w0 (x0 :: x1 :: x2 :: x3 :: (p, o) :: bs) rs ex W) (ho : (W.setCell ⟨p, j, none⟩ x).heap[p]? = some o') : Hex w0 (x0 :: x1 :: x2 :: x3 :: (p, o') :: bs) rs ex (W.setCell ⟨p, j, none⟩ x) := Hex.set (pre := [x0, x1, x2, x3]) H ho
theorem Hex.s240 {w0 W : World} {bs : List (Nat × Obj)} {rs : List RowF} {ex : RowF} {x0 x1 x2 x3 : Nat × Obj} {p : Nat} {u v : Value} {t : TypeId} (H : Hex w0 (x0 :: x1 :: x2 :: x3 :: (p, .cells #[u, v] t) :: bs) rs ex W) (y : Value) : Hex w0 (x0 :: x1 :: x2 :: x3 :: (p, .cells #[y, v] t) :: bs) rs ex (W.setCell ⟨p, 0, none⟩ y) := H.set4 (by simp [World.setCell, Array.getElem?_modify, H.b4])
theorem Hex.s241 {w0 W : World} {bs : List (Nat × Obj)} {rs : List RowF} {ex : RowF} {x0 x1 x2 x3 : Nat × Obj} {p : Nat} {u v : Value} {t : TypeId} (H : Hex w0 (x0 :: x1 :: x2 :: x3 :: (p, .cells #[u, v] t) :: bs) rs ex W) (y : Value) : Hex w0 (x0 :: x1 :: x2 :: x3 :: (p, .cells #[u, y] t) :: bs) rs ex (W.setCell ⟨p, 1, none⟩ y) := H.set4 (by simp [World.setCell, Array.getElem?_modify, H.b4])
theorem Hex.s340 {w0 W : World} {bs : List (Nat × Obj)} {rs : List RowF} {ex : RowF} {x0 x1 x2 x3 : Nat × Obj} {p : Nat} {u v x : Value} {t : TypeId} (H : Hex w0 (x0 :: x1 :: x2 :: x3 :: (p, .cells #[u, v, x] t) :: bs) rs ex W) (y : Value) : Hex w0 (x0 :: x1 :: x2 :: x3 :: (p, .cells #[y, v, x] t) :: bs) rs ex (W.setCell ⟨p, 0, none⟩ y) := H.set4 (by simp [World.setCell, Array.getElem?_modify, H.b4])
theorem Hex.s341 {w0 W : World} {bs : List (Nat × Obj)} {rs : List RowF} {ex : RowF} {x0 x1 x2 x3 : Nat × Obj} {p : Nat} {u v x : Value} {t : TypeId} (H : Hex w0 (x0 :: x1 :: x2 :: x3 :: (p, .cells #[u, v, x] t) :: bs) rs ex W) (y : Value) : Hex w0 (x0 :: x1 :: x2 :: x3 :: (p, .cells #[u, y, x] t) :: bs) rs ex (W.setCell ⟨p, 1, none⟩ y) := H.set4 (by simp [World.setCell, Array.getElem?_modify, H.b4])
theorem Hex.s342 {w0 W : World} {bs : List (Nat × Obj)} {rs : List RowF} {ex : RowF} {x0 x1 x2 x3 : Nat × Obj} {p : Nat} {u v x : Value} {t : TypeId} (H : Hex w0 (x0 :: x1 :: x2 :: x3 :: (p, .cells #[u, v, x] t) :: bs) rs ex W) (y : Value) : Hex w0 (x0 :: x1 :: x2 :: x3 :: (p, .cells #[u, v, y] t) :: bs) rs ex (W.setCell ⟨p, 2, none⟩ y) := H.set4 (by simp [World.setCell, Array.getElem?_modify, H.b4])
theorem Hex.dropb4 {w0 W : World} {bs : List (Nat × Obj)} {rs : List RowF} {ex : RowF} {x0 x1 x2 x3 : Nat × Obj} {p : Nat × Obj} (H : Hex w0 (x0 :: x1 :: x2 :: x3 :: p :: bs) rs ex W) : Hex w0 (x0 :: x1 :: x2 :: x3 :: bs) rs ex W := H.sub (.cons_cons _ (.cons_cons _ (.cons_cons _ (.cons_cons _ (.cons _ (List.Sublist.refl _)))))) (List.Sublist.refl _)
theorem Hex.b5 {w0 W : World} {bs : List (Nat × Obj)} {rs : List RowF} {ex : RowF} {x0 x1 x2 x3 x4 : Nat × Obj} {p : Nat} {o : Obj} (H : Hex w0 (x0 :: x1 :: x2 :: x3 :: x4 :: (p, o) :: bs) rs ex W) : W.heap[p]? = some o := H.box (p, o) (.tail _ (.tail _ (.tail _ (.tail _ (.tail _ (.head _))))))
theorem Hex.p5 {w0 W : World} {bs : List (Nat × Obj)} {rs : List RowF} {ex : RowF} {x0 x1 x2 x3 x4 : Nat × Obj} {p : Nat} {o : Obj} (H : Hex w0 (x0 :: x1 :: x2 :: x3 :: x4 :: (p, o) :: bs) rs ex W) : w0.heap.size ≤ p := H.new (p, o) (.tail _ (.tail _ (.tail _ (.tail _ (.tail _ (.head _))))))
theorem Hex.set5 {w0 W : World} {bs : List (Nat × Obj)} {rs : List RowF} {ex : RowF} {x0 x1 x2 x3 x4 : Nat × Obj} {p j : Nat} {o o' : Obj} {x : Value} (H : Hex w0 (x0 :: x1 :: x2 :: x3 :: x4 :: (p, o) :: bs) rs ex W) (ho : (W.setCell ⟨p, j, none⟩ x).heap[p]? = some o') : Hex w0 (x0 :: x1 :: x2 :: x3 :: x4 :: (p, o') :: bs) rs ex (W.setCell ⟨p, j, none⟩ x) := Hex.set (pre := [x0, x1, x2, x3, x4]) H ho
theorem Hex.s250 {w0 W : World} {bs : List (Nat × Obj)} {rs : List RowF} {ex : RowF} {x0 x1 x2 x3 x4 : Nat × Obj} {p : Nat} {u v : Value} {t : TypeId} (H : Hex w0 (x0 :: x1 :: x2 :: x3 :: x4 :: (p, .cells #[u, v] t) :: bs) rs ex W) (y : Value) : Hex w0 (x0 :: x1 :: x2 :: x3 :: x4 :: (p, .cells #[y, v] t) :: bs) rs ex (W.setCell ⟨p, 0, none⟩ y) := H.set5 (by simp [World.setCell, Array.getElem?_modify, H.b5])
theorem Hex.s251 {w0 W : World} {bs : List (Nat × Obj)} {rs : List RowF} {ex : RowF} {x0 x1 x2 x3 x4 : Nat × Obj} {p : Nat} {u v : Value} {t : TypeId} (H : Hex w0 (x0 :: x1 :: x2 :: x3 :: x4 :: (p, .cells #[u, v] t) :: bs) rs ex W) (y : Value) : Hex w0 (x0 :: x1 :: x2 :: x3 :: x4 :: (p, .cells #[u, y] t) :: bs) rs ex (W.setCell ⟨p, 1, none⟩ y) := H.set5 (by simp [World.setCell, Array.getElem?_modify, H.b5])
theorem Hex.s350 {w0 W : World} {bs : List (Nat × Obj)} {rs : List RowF} {ex : RowF} {x0 x1 x2 x3 x4 : Nat × Obj} {p : Nat} {u v x : Value} {t : TypeId} (H : Hex w0 (x0 :: x1 :: x2 :: x3 :: x4 :: (p, .cells #[u, v, x] t) :: bs) rs ex W) (y : Value) : Hex w0 (x0 :: x1 :: x2 :: x3 :: x4 :: (p, .cells #[y, v, x] t) :: bs) rs ex (W.setCell ⟨p, 0, none⟩ y) := H.set5 (by simp [World.setCell, Array.getElem?_modify, H.b5])
theorem Hex.s351 {w0 W : World} {bs : List (Nat × Obj)} {rs : List RowF} {ex : RowF} {x0 x1 x2 x3 x4 : Nat × Obj} {p : Nat} {u v x : Value} {t : TypeId} (H : Hex w0 (x0 :: x1 :: x2 :: x3 :: x4 :: (p, .cells #[u, v, x] t) :: bs) rs ex W) (y : Value) : Hex w0 (x0 :: x1 :: x2 :: x3 :: x4 :: (p, .cells #[u, y, x] t) :: bs) rs ex (W.setCell ⟨p, 1, none⟩ y) := H.set5 (by simp [World.setCell, Array.getElem?_modify, H.b5])
theorem Hex.s352 {w0 W : World} {bs : List (Nat × Obj)} {rs : List RowF} {ex : RowF} {x0 x1 x2 x3 x4 : Nat × Obj} {p : Nat} {u v x : Value} {t : TypeId} (H : Hex w0 (x0 :: x1 :: x2 :: x3 :: x4 :: (p, .cells #[u, v, x] t) :: bs) rs ex W) (y : Value) : Hex w0 (x0 :: x1 :: x2 :: x3 :: x4 :: (p, .cells #[u, v, y] t) :: bs) rs ex (W.setCell ⟨p, 2, none⟩ y) := H.set5 (by simp [World.setCell, Array.getElem?_modify, H.b5])
theorem Hex.dropb5 {w0 W : World} {bs : List (Nat × Obj)} {rs : List RowF} {ex : RowF} {x0 x1 x2 x3 x4 : Nat × Obj} {p : Nat × Obj} (H : Hex w0 (x0 :: x1 :: x2 :: x3 :: x4 :: p :: bs) rs ex W) : Hex w0 (x0 :: x1 :: x2 :: x3 :: x4 :: bs) rs ex W := H.sub (.cons_cons _ (.cons_cons _ (.cons_cons _ (.cons_cons _ (.cons_cons _ (.cons _ (List.Sublist.refl _))))))) (List.Sublist.refl _)
theorem Hex.b6 {w0 W : World} {bs : List (Nat × Obj)} {rs : List RowF} {ex : RowF} {x0 x1 x2 x3 x4 x5 : Nat × Obj} {p : Nat} {o : Obj} (H : Hex w0 (x0 :: x1 :: x2 :: x3 :: x4 :: x5 :: (p, o) :: bs) rs ex W) : W.heap[p]? = some o := H.box (p, o) (.tail _ (.tail _ (.tail _ (.tail _ (.tail _ (.tail _ (.head _)))))))
theorem Hex.p6 {w0 W : World} {bs : List (Nat × Obj)} {rs : List RowF} {ex : RowF} {x0 x1 x2 x3 x4 x5 : Nat × Obj} {p : Nat} {o : Obj} (H : Hex w0 (x0 :: x1 :: x2 :: x3 :: x4 :: x5 :: (p, o) :: bs) rs ex W) : w0.heap.size ≤ p := H.new (p, o) (.tail _ (.tail _ (.tail _ (.tail _ (.tail _ (.tail _ (.head _)))))))
theorem Hex.set6 {w0 W : World} {bs : List (Nat × Obj)} {rs : List RowF} {ex : RowF} {x0 x1 x2 x3 x4 x5 : Nat × Obj} {p j : Nat} {o o' : Obj} {x : Value} (H : Hex w0 (x0 :: x1 :: x2 :: x3 :: x4 :: x5 :: (p, o) :: bs) rs ex W) (ho : (W.setCell ⟨p, j, none⟩ x).heap[p]? = some o') : Hex w0 (x0 :: x1 :: x2 :: x3 :: x4 :: x5 :: (p, o') :: bs) rs ex (W.setCell ⟨p, j, none⟩ x) := Hex.set (pre := [x0, x1, x2, x3, x4, x5]) H ho
theorem Hex.s260 {w0 W : World} {bs : List (Nat × Obj)} {rs : List RowF} {ex : RowF} {x0 x1 x2 x3 x4 x5 : Nat × Obj} {p : Nat} {u v : Value} {t : TypeId} (H : Hex w0 (x0 :: x1 :: x2 :: x3 :: x4 :: x5 :: (p, .cells #[u, v] t) :: bs) rs ex W) (y : Value) : Hex w0 (x0 :: x1 :: x2 :: x3 :: x4 :: x5 :: (p, .cells #[y, v] t) :: bs) rs ex (W.setCell ⟨p, 0, none⟩ y) := H.set6 (by simp [World.setCell, Array.getElem?_modify, H.b6])
theorem Hex.s261 {w0 W : World} {bs : List (Nat × Obj)} {rs : List RowF} {ex : RowF} {x0 x1 x2 x3 x4 x5 : Nat × Obj} {p : Nat} {u v : Value} {t : TypeId} (H : Hex w0 (x0 :: x1 :: x2 :: x3 :: x4 :: x5 :: (p, .cells #[u, v] t) :: bs) rs ex W) (y : Value) : Hex w0 (x0 :: x1 :: x2 :: x3 :: x4 :: x5 :: (p, .cells #[u, y] t) :: bs) rs ex (W.setCell ⟨p, 1, none⟩ y) := H.set6 (by simp [World.setCell, Array.getElem?_modify, H.b6])
theorem Hex.s360 {w0 W : World} {bs : List (Nat × Obj)} {rs : List RowF} {ex : RowF} {x0 x1 x2 x3 x4 x5 : Nat × Obj} {p : Nat} {u v x : Value} {t : TypeId} (H : Hex w0 (x0 :: x1 :: x2 :: x3 :: x4 :: x5 :: (p, .cells #[u, v, x] t) :: bs) rs ex W) (y : Value) : Hex w0 (x0 :: x1 :: x2 :: x3 :: x4 :: x5 :: (p, .cells #[y, v, x] t) :: bs) rs ex (W.setCell ⟨p, 0, none⟩ y) := H.set6 (by simp [World.setCell, Array.getElem?_modify, H.b6])
theorem Hex.s361 {w0 W : World} {bs : List (Nat × Obj)} {rs : List RowF} {ex : RowF} {x0 x1 x2 x3 x4 x5 : Nat × Obj} {p : Nat} {u v x : Value} {t : TypeId} (H : Hex w0 (x0 :: x1 :: x2 :: x3 :: x4 :: x5 :: (p, .cells #[u, v, x] t) :: bs) rs ex W) (y : Value) : Hex w0 (x0 :: x1 :: x2 :: x3 :: x4 :: x5 :: (p, .cells #[u, y, x] t) :: bs) rs ex (W.setCell ⟨p, 1, none⟩ y) := H.set6 (by simp [World.setCell, Array.getElem?_modify, H.b6])
theorem Hex.s362 {w0 W : World} {bs : List (Nat × Obj)} {rs : List RowF} {ex : RowF} {x0 x1 x2 x3 x4 x5 : Nat × Obj} {p : Nat} {u v x : Value} {t : TypeId} (H : Hex w0 (x0 :: x1 :: x2 :: x3 :: x4 :: x5 :: (p, .cells #[u, v, x] t) :: bs) rs ex W) (y : Value) : Hex w0 (x0 :: x1 :: x2 :: x3 :: x4 :: x5 :: (p, .cells #[u, v, y] t) :: bs) rs ex (W.setCell ⟨p, 2, none⟩ y) := H.set6 (by simp [World.setCell, Array.getElem?_modify, H.b6])
theorem Hex.dropb6 {w0 W : World} {bs : List (Nat × Obj)} {rs : List RowF} {ex : RowF} {x0 x1 x2 x3 x4 x5 : Nat × Obj} {p : Nat × Obj} (H : Hex w0 (x0 :: x1 :: x2 :: x3 :: x4 :: x5 :: p :: bs) rs ex W) : Hex w0 (x0 :: x1 :: x2 :: x3 :: x4 :: x5 :: bs) rs ex W := H.sub (.cons_cons _ (.cons_cons _ (.cons_cons _ (.cons_cons _ (.cons_cons _ (.cons_cons _ (.cons _ (List.Sublist.refl _)))))))) (List.Sublist.refl _)
theorem Hex.b7 {w0 W : World} {bs : List (Nat × Obj)} {rs : List RowF} {ex : RowF} {x0 x1 x2 x3 x4 x5 x6 : Nat × Obj} {p : Nat} {o : Obj} (H : Hex w0 (x0 :: x1 :: x2 :: x3 :: x4 :: x5 :: x6 :: (p, o) :: bs) rs ex W) : W.heap[p]? = some o := H.box (p, o) (.tail _ (.tail _ (.tail _ (.tail _ (.tail _ (.tail _ (.tail _ (.head _))))))))
theorem Hex.p7 {w0 W : World} {bs : List (Nat × Obj)} {rs : List RowF} {ex : RowF} {x0 x1 x2 x3 x4 x5 x6 : Nat × Obj} {p : Nat} {o : Obj} (H : Hex w0 (x0 :: x1 :: x2 :: x3 :: x4 :: x5 :: x6 :: (p, o) :: bs) rs ex W) : w0.heap.size ≤ p := H.new (p, o) (.tail _ (.tail _ (.tail _ (.tail _ (.tail _ (.tail _ (.tail _ (.head _))))))))
theorem Hex.set7 {w0 W : World} {bs : List (Nat × Obj)} {rs : List RowF} {ex : RowF} {x0 x1 x2 x3 x4 x5 x6 : Nat × Obj} {p j : Nat} {o o' : Obj} {x : Value} (H : Hex w0 (x0 :: x1 :: x2 :: x3 :: x4 :: x5 :: x6 :: (p, o) :: bs) rs ex W) (ho : (W.setCell ⟨p, j, none⟩ x).heap[p]? = some o') : Hex w0 (x0 :: x1 :: x2 :: x3 :: x4 :: x5 :: x6 :: (p, o') :: bs) rs ex (W.setCell ⟨p, j, none⟩ x) := Hex.set (pre := [x0, x1, x2, x3, x4, x5, x6]) H ho
theorem Hex.s270 {w0 W : World} {bs : List (Nat × Obj)} {rs : List RowF} {ex : RowF} {x0 x1 x2 x3 x4 x5 x6 : Nat × Obj} {p : Nat} {u v : Value} {t : TypeId} (H : Hex w0 (x0 :: x1 :: x2 :: x3 :: x4 :: x5 :: x6 :: (p, .cells #[u, v] t) :: bs) rs ex W) (y : Value) : Hex w0 (x0 :: x1 :: x2 :: x3 :: x4 :: x5 :: x6 :: (p, .cells #[y, v] t) :: bs) rs ex (W.setCell ⟨p, 0, none⟩ y) := H.set7 (by simp [World.setCell, Array.getElem?_modify, H.b7])
theorem Hex.s271 {w0 W : World} {bs : List (Nat × Obj)} {rs : List RowF} {ex : RowF} {x0 x1 x2 x3 x4 x5 x6 : Nat × Obj} {p : Nat} {u v : Value} {t : TypeId} (H : Hex w0 (x0 :: x1 :: x2 :: x3 :: x4 :: x5 :: x6 :: (p, .cells #[u, v] t) :: bs) rs ex W) (y : Value) : Hex w0 (x0 :: x1 :: x2 :: x3 :: x4 :: x5 :: x6 :: (p, .cells #[u, y] t) :: bs) rs ex (W.setCell ⟨p, 1, none⟩ y) := H.set7 (by simp [World.setCell, Array.getElem?_modify, H.b7])
theorem Hex.s370 {w0 W : World} {bs : List (Nat × Obj)} {rs : List RowF} {ex : RowF} {x0 x1 x2 x3 x4 x5 x6 : Nat × Obj} {p : Nat} {u v x : Value} {t : TypeId} (H : Hex w0 (x0 :: x1 :: x2 :: x3 :: x4 :: x5 :: x6 :: (p, .cells #[u, v, x] t) :: bs) rs ex W) (y : Value) : Hex w0 (x0 :: x1 :: x2 :: x3 :: x4 :: x5 :: x6 :: (p, .cells #[y, v, x] t) :: bs) rs ex (W.setCell ⟨p, 0, none⟩ y) := H.set7 (by simp [World.setCell, Array.getElem?_modify, H.b7])
theorem Hex.s371 {w0 W : World} {bs : List (Nat × Obj)} {rs : List RowF} {ex : RowF} {x0 x1 x2 x3 x4 x5 x6 : Nat × Obj} {p : Nat} {u v x : Value} {t : TypeId} (H : Hex w0 (x0 :: x1 :: x2 :: x3 :: x4 :: x5 :: x6 :: (p, .cells #[u, v, x] t) :: bs) rs ex W) (y : Value) : Hex w0 (x0 :: x1 :: x2 :: x3 :: x4 :: x5 :: x6 :: (p, .cells #[u, y, x] t) :: bs) rs ex (W.setCell ⟨p, 1, none⟩ y) := H.set7 (by simp [World.setCell, Array.getElem?_modify, H.b7])
theorem Hex.s372 {w0 W : World} {bs : List (Nat × Obj)} {rs : List RowF} {ex : RowF} {x0 x1 x2 x3 x4 x5 x6 : Nat × Obj} {p : Nat} {u v x : Value} {t : TypeId} (H : Hex w0 (x0 :: x1 :: x2 :: x3 :: x4 :: x5 :: x6 :: (p, .cells #[u, v, x] t) :: bs) rs ex W) (y : Value) : Hex w0 (x0 :: x1 :: x2 :: x3 :: x4 :: x5 :: x6 :: (p, .cells #[u, v, y] t) :: bs) rs ex (W.setCell ⟨p, 2, none⟩ y) := H.set7 (by simp [World.setCell, Array.getElem?_modify, H.b7])
theorem Hex.dropb7 {w0 W : World} {bs : List (Nat × Obj)} {rs : List RowF} {ex : RowF} {x0 x1 x2 x3 x4 x5 x6 : Nat × Obj} {p : Nat × Obj} (H : Hex w0 (x0 :: x1 :: x2 :: x3 :: x4 :: x5 :: x6 :: p :: bs) rs ex W) : Hex w0 (x0 :: x1 :: x2 :: x3 :: x4 :: x5 :: x6 :: bs) rs ex W := H.sub (.cons_cons _ (.cons_cons _ (.cons_cons _ (.cons_cons _ (.cons_cons _ (.cons_cons _ (.cons_cons _ (.cons _ (List.Sublist.refl _))))))))) (List.Sublist.refl _)
theorem Hex.r0 {w0 W : World} {bs : List (Nat × Obj)} {rs : List RowF} {ex : RowF} {r : RowF} (H : Hex w0 bs (r :: rs) ex W) : r.on W := H.row r (.head _)
theorem Hex.turn0 {w0 W W' : World} {bs : List (Nat × Obj)} {rs : List RowF} {ex : RowF} {r r' : RowF} (H : Hex w0 bs (r :: rs) ex W) (hg : W.grownBy W' r.v.ownBlock) (h : r'.on W') (hB : r'.B = r.B) (hd : (∀ s, s ∈ rs → s.t ≠ r'.t) ∧ ∀ p, p ∈ bs → objType p.2 ≠ some r'.t) : Hex w0 bs (r' :: rs) ex W' := Hex.turn (pre := []) H hg h hB hd
theorem Hex.dropr0 {w0 W : World} {bs : List (Nat × Obj)} {rs : List RowF} {ex : RowF} {r : RowF} (H : Hex w0 bs (r :: rs) ex W) : Hex w0 bs (rs) ex W := H.sub (List.Sublist.refl _) (.cons _ (List.Sublist.refl _))
theorem Hex.r1 {w0 W : World} {bs : List (Nat × Obj)} {rs : List RowF} {ex : RowF} {x0 : RowF} {r : RowF} (H : Hex w0 bs (x0 :: r :: rs) ex W) : r.on W := H.row r (.tail _ (.head _))
theorem Hex.turn1 {w0 W W' : World} {bs : List (Nat × Obj)} {rs : List RowF} {ex : RowF} {x0 : RowF} {r r' : RowF} (H : Hex w0 bs (x0 :: r :: rs) ex W) (hg : W.grownBy W' r.v.ownBlock) (h : r'.on W') (hB : r'.B = r.B) (hd : (∀ s, s ∈ x0 :: rs → s.t ≠ r'.t) ∧ ∀ p, p ∈ bs → objType p.2 ≠ some r'.t) : Hex w0 bs (x0 :: r' :: rs) ex W' := Hex.turn (pre := [x0]) H hg h hB hd
theorem Hex.dropr1 {w0 W : World} {bs : List (Nat × Obj)} {rs : List RowF} {ex : RowF} {x0 : RowF} {r : RowF} (H : Hex w0 bs (x0 :: r :: rs) ex W) : Hex w0 bs (x0 :: rs) ex W := H.sub (List.Sublist.refl _) (.cons_cons _ (.cons _ (List.Sublist.refl _)))
theorem Hex.r2 {w0 W : World} {bs : List (Nat × Obj)} {rs : List RowF} {ex : RowF} {x0 x1 : RowF} {r : RowF} (H : Hex w0 bs (x0 :: x1 :: r :: rs) ex W) : r.on W := H.row r (.tail _ (.tail _ (.head _)))
theorem Hex.turn2 {w0 W W' : World} {bs : List (Nat × Obj)} {rs : List RowF} {ex : RowF} {x0 x1 : RowF} {r r' : RowF} (H : Hex w0 bs (x0 :: x1 :: r :: rs) ex W) (hg : W.grownBy W' r.v.ownBlock) (h : r'.on W') (hB : r'.B = r.B) (hd : (∀ s, s ∈ x0 :: x1 :: rs → s.t ≠ r'.t) ∧ ∀ p, p ∈ bs → objType p.2 ≠ some r'.t) : Hex w0 bs (x0 :: x1 :: r' :: rs) ex W' := Hex.turn (pre := [x0, x1]) H hg h hB hd
theorem Hex.dropr2 {w0 W : World} {bs : List (Nat × Obj)} {rs : List RowF} {ex : RowF} {x0 x1 : RowF} {r : RowF} (H : Hex w0 bs (x0 :: x1 :: r :: rs) ex W) : Hex w0 bs (x0 :: x1 :: rs) ex W := H.sub (List.Sublist.refl _) (.cons_cons _ (.cons_cons _ (.cons _ (List.Sublist.refl _))))
theorem Hex.r3 {w0 W : World} {bs : List (Nat × Obj)} {rs : List RowF} {ex : RowF} {x0 x1 x2 : RowF} {r : RowF} (H : Hex w0 bs (x0 :: x1 :: x2 :: r :: rs) ex W) : r.on W := H.row r (.tail _ (.tail _ (.tail _ (.head _))))
theorem Hex.turn3 {w0 W W' : World} {bs : List (Nat × Obj)} {rs : List RowF} {ex : RowF} {x0 x1 x2 : RowF} {r r' : RowF} (H : Hex w0 bs (x0 :: x1 :: x2 :: r :: rs) ex W) (hg : W.grownBy W' r.v.ownBlock) (h : r'.on W') (hB : r'.B = r.B) (hd : (∀ s, s ∈ x0 :: x1 :: x2 :: rs → s.t ≠ r'.t) ∧ ∀ p, p ∈ bs → objType p.2 ≠ some r'.t) : Hex w0 bs (x0 :: x1 :: x2 :: r' :: rs) ex W' := Hex.turn (pre := [x0, x1, x2]) H hg h hB hd
theorem Hex.dropr3 {w0 W : World} {bs : List (Nat × Obj)} {rs : List RowF} {ex : RowF} {x0 x1 x2 : RowF} {r : RowF} (H : Hex w0 bs (x0 :: x1 :: x2 :: r :: rs) ex W) : Hex w0 bs (x0 :: x1 :: x2 :: rs) ex W := H.sub (List.Sublist.refl _) (.cons_cons _ (.cons_cons _ (.cons_cons _ (.cons _ (List.Sublist.refl _)))))
theorem Hex.r4 {w0 W : World} {bs : List (Nat × Obj)} {rs : List RowF} {ex : RowF} {x0 x1 x2 x3 : RowF} {r : RowF} (H : Hex w0 bs (x0 :: x1 :: x2 :: x3 :: r :: rs) ex W) : r.on W := H.row r (.tail _ (.tail _ (.tail _ (.tail _ (.head _)))))
theorem Hex.turn4 {w0 W W' : World} {bs : List (Nat × Obj)} {rs : List RowF} {ex : RowF} {x0 x1 x2 x3 : RowF} {r r' : RowF} (H : Hex w0 bs (x0 :: x1 :: x2 :: x3 :: r :: rs) ex W) (hg : W.grownBy W' r.v.ownBlock) (h : r'.on W') (hB : r'.B = r.B) (hd : (∀ s, s ∈ x0 :: x1 :: x2 :: x3 :: rs → s.t ≠ r'.t) ∧ ∀ p, p ∈ bs → objType p.2 ≠ some r'.t) : Hex w0 bs (x0 :: x1 :: x2 :: x3 :: r' :: rs) ex W' := Hex.turn (pre := [x0, x1, x2, x3]) H hg h hB hd
theorem Hex.dropr4 {w0 W : World} {bs : List (Nat × Obj)} {rs : List RowF} {ex : RowF} {x0 x1 x2 x3 : RowF} {r : RowF} (H : Hex w0 bs (x0 :: x1 :: x2 :: x3 :: r :: rs) ex W) : Hex w0 bs (x0 :: x1 :: x2 :: x3 :: rs) ex W := H.sub (List.Sublist.refl _) (.cons_cons _ (.cons_cons _ (.cons_cons _ (.cons_cons _ (.cons _ (List.Sublist.refl _))))))
theorem Hex.r5 {w0 W : World} {bs : List (Nat × Obj)} {rs : List RowF} {ex : RowF} {x0 x1 x2 x3 x4 : RowF} {r : RowF} (H : Hex w0 bs (x0 :: x1 :: x2 :: x3 :: x4 :: r :: rs) ex W) : r.on W := H.row r (.tail _ (.tail _ (.tail _ (.tail _ (.tail _ (.head _))))))
theorem Hex.turn5 {w0 W W' : World} {bs : List (Nat × Obj)} {rs : List RowF} {ex : RowF} {x0 x1 x2 x3 x4 : RowF} {r r' : RowF} (H : Hex w0 bs (x0 :: x1 :: x2 :: x3 :: x4 :: r :: rs) ex W) (hg : W.grownBy W' r.v.ownBlock) (h : r'.on W') (hB : r'.B = r.B) (hd : (∀ s, s ∈ x0 :: x1 :: x2 :: x3 :: x4 :: rs → s.t ≠ r'.t) ∧ ∀ p, p ∈ bs → objType p.2 ≠ some r'.t) : Hex w0 bs (x0 :: x1 :: x2 :: x3 :: x4 :: r' :: rs) ex W' := Hex.turn (pre := [x0, x1, x2, x3, x4]) H hg h hB hd
theorem Hex.dropr5 {w0 W : World} {bs : List (Nat × Obj)} {rs : List RowF} {ex : RowF} {x0 x1 x2 x3 x4 : RowF} {r : RowF} (H : Hex w0 bs (x0 :: x1 :: x2 :: x3 :: x4 :: r :: rs) ex W) : Hex w0 bs (x0 :: x1 :: x2 :: x3 :: x4 :: rs) ex W := H.sub (List.Sublist.refl _) (.cons_cons _ (.cons_cons _ (.cons_cons _ (.cons_cons _ (.cons_cons _ (.cons _ (List.Sublist.refl _)))))))
theorem Hex.r6 {w0 W : World} {bs : List (Nat × Obj)} {rs : List RowF} {ex : RowF} {x0 x1 x2 x3 x4 x5 : RowF} {r : RowF} (H : Hex w0 bs (x0 :: x1 :: x2 :: x3 :: x4 :: x5 :: r :: rs) ex W) : r.on W := H.row r (.tail _ (.tail _ (.tail _ (.tail _ (.tail _ (.tail _ (.head _)))))))
theorem Hex.turn6 {w0 W W' : World} {bs : List (Nat × Obj)} {rs : List RowF} {ex : RowF} {x0 x1 x2 x3 x4 x5 : RowF} {r r' : RowF} (H : Hex w0 bs (x0 :: x1 :: x2 :: x3 :: x4 :: x5 :: r :: rs) ex W) (hg : W.grownBy W' r.v.ownBlock) (h : r'.on W') (hB : r'.B = r.B) (hd : (∀ s, s ∈ x0 :: x1 :: x2 :: x3 :: x4 :: x5 :: rs → s.t ≠ r'.t) ∧ ∀ p, p ∈ bs → objType p.2 ≠ some r'.t) : Hex w0 bs (x0 :: x1 :: x2 :: x3 :: x4 :: x5 :: r' :: rs) ex W' := Hex.turn (pre := [x0, x1, x2, x3, x4, x5]) H hg h hB hd
theorem Hex.dropr6 {w0 W : World} {bs : List (Nat × Obj)} {rs : List RowF} {ex : RowF} {x0 x1 x2 x3 x4 x5 : RowF} {r : RowF} (H : Hex w0 bs (x0 :: x1 :: x2 :: x3 :: x4 :: x5 :: r :: rs) ex W) : Hex w0 bs (x0 :: x1 :: x2 :: x3 :: x4 :: x5 :: rs) ex W := H.sub (List.Sublist.refl _) (.cons_cons _ (.cons_cons _ (.cons_cons _ (.cons_cons _ (.cons_cons _ (.cons_cons _ (.cons _ (List.Sublist.refl _))))))))
end Go.Proofs.Ytjilbfohfgalkaa
/- The reader in the bundle: what a drawing function holds while it is walked. -/
namespace Go.Proofs.Ytjilbfohfgalkaa
open Go.RowKit

/-- The reader's block, as a row that came in. -/
def exR (B R : Nat) (a : Option Addr) (len cap p : Nat) : RowF := ⟨B, 74, 2, .slice (some ⟨R, 0, none⟩) 1 1, 1, [.slice a len cap, .int .i64 p]⟩
theorem exR_on {B R : Nat} {a : Option Addr} {len cap p : Nat} {W : World} (hB : B ≤ R) (h : W.heap[R]? = some (.cells #[.slice a len cap, .int .i64 p] 74)) : (exR B R a len cap p).on W :=
  ⟨rfl, .inr ⟨R, 1, #[.slice a len cap, .int .i64 p], rfl, hB, h, Nat.le_refl 1, by unfold maxLen; decide, rfl, rfl⟩⟩
theorem exR_block {B R : Nat} {a : Option Addr} {len cap p : Nat} {W : World} (h : (exR B R a len cap p).on W) : W.heap[R]? = some (.cells #[.slice a len cap, .int .i64 p] 74) := by
  obtain ⟨_, h2⟩ := h
  rcases h2 with ⟨e, _⟩ | ⟨g', c', cur, e, hb, hg, h1, h3, h4, h5⟩
  · cases e
  · injection e with e e1 e2
    injection e with e
    injection e with e
    subst e e2
    simp only [exR] at hg h4 h5
    rw [hg]
    have hl : cur.toList.length = 2 := by simpa using h4
    rw [List.take_of_length_le (by omega)] at h5
    have : cur = #[.slice a len cap, .int .i64 p] := by
      rw [← Array.toList_inj, h5]
    rw [this]

/-- The bundle with a reader. -/
def RdX (B R : Nat) (w0 : World) (bs : List (Nat × Obj)) (rs : List RowF) (W : World) : Prop :=
  ∃ (a : Option Addr) (len cap p : Nat), (p ≤ len ∧ len ≤ maxLen ∧ B ≤ R ∧ R < w0.heap.size ∧ ∀ i, i < len → ∃ b off x, a = some ⟨b, off, none⟩ ∧ b < B ∧ w0.cell? ⟨b, off + i, none⟩ = some (.int .u8 x) ∧ 0 ≤ x ∧ x ≤ 255) ∧ Hex w0 bs rs (exR B R a len cap p) W
theorem RdX.start {B R : Nat} {w : World} (h : Q.Rd B R w) : RdX B R w [] [] w := by
  have hlt := h.lt
  obtain ⟨a, len, cap, p, h1, h2, h3, h4, h5⟩ := h
  exact ⟨a, len, cap, p, ⟨h1, h2, h3, hlt, h5⟩, Hex.start w (exR_on h3 h4)⟩
theorem RdX.map {B R : Nat} {w0 W W' : World} {bs bs' : List (Nat × Obj)} {rs rs' : List RowF} (h : RdX B R w0 bs rs W) (f : ∀ ex : RowF, Hex w0 bs rs ex W → Hex w0 bs' rs' ex W') : RdX B R w0 bs' rs' W' := by
  obtain ⟨a, len, cap, p, h1, H⟩ := h
  exact ⟨a, len, cap, p, h1, f _ H⟩
theorem RdX.at {B R : Nat} {w0 W : World} {bs : List (Nat × Obj)} {rs : List RowF} (h : RdX B R w0 bs rs W) {P : Prop} (f : ∀ ex : RowF, Hex w0 bs rs ex W → P) : P := by
  obtain ⟨a, len, cap, p, h1, H⟩ := h
  exact f _ H
theorem RdX.grown {B R : Nat} {w0 W : World} {bs : List (Nat × Obj)} {rs : List RowF} (h : RdX B R w0 bs rs W) : w0.grownBy W (some R) := by
  obtain ⟨a, len, cap, p, h1, H⟩ := h
  exact H.bel
theorem RdX.rd {B R : Nat} {w0 W : World} {bs : List (Nat × Obj)} {rs : List RowF} (h : RdX B R w0 bs rs W) : Q.Rd B R W := by
  have hg := h.grown
  obtain ⟨a, len, cap, p, ⟨h1, h2, h3, h4, h5⟩, H⟩ := h
  refine ⟨a, len, cap, p, h1, h2, h3, exR_block H.exOn, fun i hi => ?_⟩
  obtain ⟨b, off, x, e, hb, hc, hx⟩ := h5 i hi
  exact ⟨b, off, x, e, hb, hg.cell hc (fun e => by injection e with e; dsimp only at e; omega), hx⟩
/-- The reader read on. -/
theorem RdX.read {B R : Nat} {w0 W W' : World} {bs : List (Nat × Obj)} {rs : List RowF} (h : RdX B R w0 bs rs W) (hr : Q.Rd B R W') (hg : W.grownBy W' (some R)) : RdX B R w0 bs rs W' := by
  have hG := h.grown
  obtain ⟨a, len, cap, p, ⟨h1, h2, h3, h4, h5⟩, H⟩ := h
  obtain ⟨a', len', cap', p', q1, q2, q3, q4, q5⟩ := hr
  have hM : Hex w0 bs rs (exR B R a' len' cap' p') W' := H.mut (ex' := exR B R a' len' cap' p') hg (exR_on q3 q4) rfl
  refine ⟨a', len', cap', p', ⟨q1, q2, q3, h4, fun i hi => ?_⟩, hM⟩
  obtain ⟨b, off, x, e, hb, hc, hx⟩ := q5 i hi
  refine ⟨b, off, x, e, hb, ?_, hx⟩
  have hbl := (hG.trans hg).block b (by omega) (fun e => by injection e with e; omega)
  rw [← hc]
  exact (World.cell?_of_block (a := ⟨b, off + i, none⟩) hbl).symm
theorem RdX.since {B R : Nat} {w0 W W' : World} {bs : List (Nat × Obj)} {rs : List RowF} (h : RdX B R w0 bs rs W) (hb : Below W.heap.size W W') : RdX B R w0 bs rs W' := h.map fun _ H => H.since hb
theorem RdX.alloc {B R : Nat} {w0 W : World} {bs : List (Nat × Obj)} {rs : List RowF} (h : RdX B R w0 bs rs W) (o : Obj) : RdX B R w0 ((W.heap.size, o) :: bs) rs (W.alloc o) := h.map fun _ H => H.alloc o
theorem RdX.drew {B R : Nat} {w0 W : World} {bs : List (Nat × Obj)} {rs : List RowF} (h : RdX B R w0 bs rs W) : RdX B R w0 bs rs W.drew := h.map fun _ H => H.drew
theorem RdX.size {B R : Nat} {w0 W : World} {bs : List (Nat × Obj)} {rs : List RowF} (h : RdX B R w0 bs rs W) : w0.heap.size ≤ W.heap.size := h.grown.size
theorem RdX.b0 {B R : Nat} {w0 W : World} {bs : List (Nat × Obj)} {rs : List RowF} {p : Nat} {o : Obj} (h : RdX B R w0 ((p, o) :: bs) rs W) : W.heap[p]? = some o := h.at fun _ H => H.b0
theorem RdX.b1 {B R : Nat} {w0 W : World} {bs : List (Nat × Obj)} {rs : List RowF} {x0 : Nat × Obj} {p : Nat} {o : Obj} (h : RdX B R w0 (x0 :: (p, o) :: bs) rs W) : W.heap[p]? = some o := h.at fun _ H => H.b1
theorem RdX.b2 {B R : Nat} {w0 W : World} {bs : List (Nat × Obj)} {rs : List RowF} {x0 x1 : Nat × Obj} {p : Nat} {o : Obj} (h : RdX B R w0 (x0 :: x1 :: (p, o) :: bs) rs W) : W.heap[p]? = some o := h.at fun _ H => H.b2
theorem RdX.r0 {B R : Nat} {w0 W : World} {bs : List (Nat × Obj)} {rs : List RowF} {r : RowF} (h : RdX B R w0 bs (r :: rs) W) : r.on W := h.at fun _ H => H.row r (.head _)
theorem RdX.r1 {B R : Nat} {w0 W : World} {bs : List (Nat × Obj)} {rs : List RowF} {s r : RowF} (h : RdX B R w0 bs (s :: r :: rs) W) : r.on W := h.at fun _ H => H.row r (.tail _ (.head _))
end Go.Proofs.Ytjilbfohfgalkaa
/- When seats and versions are right, as facts on lists; raised versions, seats less one and seats more one are right again. -/
namespace Go.Proofs.Ytjilbfohfgalkaa
open Go.RowKit

structure SeatsR (ss : List (Int × Int)) : Prop where
  len : ss.length ≤ 8
  rng : ∀ s ∈ ss, (1 ≤ s.1 ∧ s.1 ≤ 20) ∧ (8 ≤ s.2 ∧ s.2 ≤ 15)
  up : ss.Pairwise fun a b => a.1 < b.1
  far : ss.Pairwise fun a b => a.2 ≠ b.2

theorem takenB_iff (ss : List (Int × Int)) (m : Nat) (l : Int) : takenB ss m l = true ↔ ∃ k, k < m ∧ (kAt ss k).2 = l := by
  simp [takenB, List.any_eq_true]

theorem up_of_steps {ss : List (Int × Int)} (h : ∀ i, i + 1 < ss.length → (kAt ss i).1 < (kAt ss (i + 1)).1) : ∀ d i, i + d + 1 < ss.length → (kAt ss i).1 < (kAt ss (i + d + 1)).1 := by
  intro d
  induction d with
  | zero => intro i hi; exact h i hi
  | succ d ih =>
    intro i hi
    have h1 := ih i (by omega)
    have h2 := h (i + d + 1) (by omega)
    have e : i + (d + 1) + 1 = i + d + 1 + 1 := by omega
    rw [e]
    omega

theorem seatsB_right {ss : List (Int × Int)} : seatsB ss = true ↔ SeatsR ss := by
  constructor
  · intro h
    simp only [seatsB, Bool.and_eq_true, decide_eq_true_eq, seatsTo, List.all_eq_true, List.mem_range] at h
    obtain ⟨hl, h⟩ := h
    have hs : ∀ i, i < ss.length → ((1 ≤ (kAt ss i).1 ∧ (kAt ss i).1 ≤ 20) ∧ (8 ≤ (kAt ss i).2 ∧ (kAt ss i).2 ≤ 15)) ∧ (i = 0 ∨ (kAt ss (i - 1)).1 < (kAt ss i).1) ∧ takenB ss i (kAt ss i).2 = false := by
      intro i hi
      have := h i hi
      simp only [seatAt, Bool.and_eq_true, decide_eq_true_eq, Bool.or_eq_true, Bool.not_eq_true'] at this
      exact ⟨⟨this.1, this.2.1⟩, this.2.2.1, this.2.2.2⟩
    refine ⟨hl, ?_, ?_, ?_⟩
    · intro s hm
      obtain ⟨i, hi, rfl⟩ := List.getElem_of_mem hm
      have := (hs i hi).1
      rwa [kAt_get ss i hi] at this
    · rw [List.pairwise_iff_getElem]
      intro i j hi hj hij
      have := up_of_steps (ss := ss) (fun i hi => by
        rcases (hs (i + 1) hi).2.1 with e | e
        · omega
        · simpa using e) (j - i - 1) i (by omega)
      have e : i + (j - i - 1) + 1 = j := by omega
      rw [e, kAt_get ss i hi, kAt_get ss j hj] at this
      exact this
    · rw [List.pairwise_iff_getElem]
      intro i j hi hj hij e
      have h1 := (hs j hj).2.2
      have h2 : takenB ss j (kAt ss j).2 = true := (takenB_iff ss j _).2 ⟨i, hij, by rw [kAt_get ss i hi, kAt_get ss j hj]; exact e⟩
      rw [h1] at h2
      exact absurd h2 (by simp)
  · rintro ⟨hl, hr, hu, hf⟩
    rw [List.pairwise_iff_getElem] at hu hf
    simp only [seatsB, Bool.and_eq_true, decide_eq_true_eq, seatsTo, List.all_eq_true, List.mem_range]
    refine ⟨hl, fun i hi => ?_⟩
    simp only [seatAt, Bool.and_eq_true, decide_eq_true_eq, Bool.or_eq_true, Bool.not_eq_true']
    have h1 := hr _ (List.getElem_mem hi)
    rw [← kAt_get ss i hi] at h1
    refine ⟨h1.1, h1.2, ?_, ?_⟩
    · by_cases h0 : i = 0
      · exact .inl h0
      · refine .inr ?_
        rw [kAt_get ss i hi, kAt_get ss (i - 1) (by omega)]
        exact hu (i - 1) i (by omega) hi (by omega)
    · rw [Bool.eq_false_iff]
      intro h
      obtain ⟨k, hk, e⟩ := (takenB_iff ss i _).1 h
      rw [kAt_get ss i hi, kAt_get ss k (by omega)] at e
      exact hf k i (by omega) hi hk e

theorem few_of_range (a : Int) : ∀ (n : Nat) (l : List Int), l.Nodup → (∀ x ∈ l, a ≤ x ∧ x < a + n) → l.length ≤ n := by
  intro n
  induction n with
  | zero =>
    intro l _ h
    cases l with
    | nil => simp
    | cons x t => have := h x (by simp); simp at this; omega
  | succ n ih =>
    intro l hn h
    have h1 := ih (l.erase (a + n)) (hn.erase _) (fun x hx => by
      have hx' := hn.mem_erase_iff.1 hx
      have := h x hx'.2
      have hne := hx'.1
      simp only [Int.natCast_add, Int.cast_ofNat_Int] at this
      omega)
    have h2 : l.length ≤ (l.erase (a + n)).length + 1 := by
      rw [List.length_erase]
      split <;> omega
    omega

/-- Seats, less the seat of a member. -/
theorem SeatsR.less {ss : List (Int × Int)} (h : SeatsR ss) (p : Int × Int → Bool) : SeatsR (ss.filter p) :=
  ⟨Nat.le_trans (List.length_filter_le _ _) h.len, fun s hs => h.rng s (List.mem_filter.1 hs).1, h.up.filter _, h.far.filter _⟩

/-- Seats, and a seat more ahead of the first whose member is greater. -/
def seatIn (m l : Int) : List (Int × Int) → List (Int × Int)
  | [] => [(m, l)]
  | s :: t => if m < s.1 then (m, l) :: s :: t else s :: seatIn m l t

theorem mem_seatIn {m l : Int} {ss : List (Int × Int)} {s : Int × Int} : s ∈ seatIn m l ss ↔ s = (m, l) ∨ s ∈ ss := by
  induction ss with
  | nil => simp [seatIn]
  | cons a t ih =>
    simp only [seatIn]
    split
    · simp
    · simp only [List.mem_cons, ih]
      constructor
      · rintro (h | h | h)
        · exact .inr (.inl h)
        · exact .inl h
        · exact .inr (.inr h)
      · rintro (h | h | h)
        · exact .inr (.inl h)
        · exact .inl h
        · exact .inr (.inr h)
theorem seatIn_len (m l : Int) (ss : List (Int × Int)) : (seatIn m l ss).length = ss.length + 1 := by
  induction ss with
  | nil => rfl
  | cons a t ih => simp only [seatIn]; split <;> simp [ih]

theorem seatIn_up {m l : Int} {ss : List (Int × Int)} (h : ss.Pairwise fun a b => a.1 < b.1) (hm : ∀ s ∈ ss, s.1 ≠ m) : (seatIn m l ss).Pairwise fun a b => a.1 < b.1 := by
  induction ss with
  | nil => simp [seatIn]
  | cons a t ih =>
    have hp := List.pairwise_cons.1 h
    simp only [seatIn]
    split
    case isTrue hlt =>
      refine List.pairwise_cons.2 ⟨?_, h⟩
      intro b hb
      rcases List.mem_cons.1 hb with rfl | hb
      · exact hlt
      · have h1 := hp.1 b hb
        simp only
        omega
    case isFalse hlt =>
      refine List.pairwise_cons.2 ⟨?_, ih hp.2 (fun s hs => hm s (List.mem_cons_of_mem _ hs))⟩
      intro b hb
      have ha := hm a (by simp)
      rcases mem_seatIn.1 hb with rfl | hb
      · simp only
        omega
      · exact hp.1 b hb

theorem seatIn_far {m l : Int} {ss : List (Int × Int)} (h : ss.Pairwise fun a b => a.2 ≠ b.2) (hm : ∀ s ∈ ss, s.2 ≠ l) : (seatIn m l ss).Pairwise fun a b => a.2 ≠ b.2 := by
  induction ss with
  | nil => simp [seatIn]
  | cons a t ih =>
    have hp := List.pairwise_cons.1 h
    simp only [seatIn]
    split
    · refine List.pairwise_cons.2 ⟨?_, h⟩
      intro b hb
      exact fun e => hm b hb e.symm
    · refine List.pairwise_cons.2 ⟨?_, ih hp.2 (fun s hs => hm s (List.mem_cons_of_mem _ hs))⟩
      intro b hb
      rcases mem_seatIn.1 hb with rfl | hb
      · exact hm a (by simp)
      · exact hp.1 b hb

theorem SeatsR.more {ss : List (Int × Int)} (h : SeatsR ss) {m l : Int} (hm : 1 ≤ m ∧ m ≤ 20) (hl : 8 ≤ l ∧ l ≤ 15) (h1 : ∀ s ∈ ss, s.1 ≠ m) (h2 : ∀ s ∈ ss, s.2 ≠ l) : SeatsR (seatIn m l ss) := by
  have hf := seatIn_far (m := m) h.far h2
  have hr : ∀ s ∈ seatIn m l ss, (1 ≤ s.1 ∧ s.1 ≤ 20) ∧ (8 ≤ s.2 ∧ s.2 ≤ 15) := by
    intro s hs
    rcases mem_seatIn.1 hs with rfl | hs
    · exact ⟨hm, hl⟩
    · exact h.rng s hs
  refine ⟨?_, hr, seatIn_up h.up h1, hf⟩
  have := few_of_range 8 8 ((seatIn m l ss).map Prod.snd) (by
    unfold List.Nodup
    exact List.pairwise_map.2 hf) (by
    intro x hx
    obtain ⟨s, hs, rfl⟩ := List.mem_map.1 hx
    have := (hr s hs).2
    omega)
  simpa using this

/-- Versions, each of the nodes' raised by one, from the first node on. -/
def raiseL (vs : List Int) (ns : List Nat) : List Int := ns.foldl (fun vs j => vs.set j (wrap64 (vAt vs j + 1))) vs
theorem raiseL_cons (vs : List Int) (j : Nat) (ns : List Nat) : raiseL vs (j :: ns) = raiseL (vs.set j (wrap64 (vAt vs j + 1))) ns := rfl
theorem raiseL_snoc (vs : List Int) (j : Nat) (ns : List Nat) : raiseL vs (ns ++ [j]) = (raiseL vs ns).set j (wrap64 (vAt (raiseL vs ns) j + 1)) := by simp [raiseL, List.foldl_append]
theorem raiseL_len (vs : List Int) (ns : List Nat) : (raiseL vs ns).length = vs.length := by
  induction ns generalizing vs with
  | nil => rfl
  | cons j ns ih => rw [raiseL_cons, ih]; simp
theorem vAt_set (vs : List Int) (i j : Nat) (z : Int) (hj : j < vs.length) : vAt (vs.set j z) i = if i = j then z else vAt vs i := by
  by_cases h : i = j
  · subst h
    simp [vAt, hj]
  · have h' : j ≠ i := fun e => h e.symm
    simp [vAt, h, h']

theorem raiseL_at {vs : List Int} {ns : List Nat} (hd : ns.Nodup) (hj : ∀ j ∈ ns, j < vs.length) (hv : ∀ j ∈ ns, 0 ≤ vAt vs j ∧ vAt vs j ≤ 1000000000) (i : Nat) :
    vAt (raiseL vs ns) i = if i ∈ ns then vAt vs i + 1 else vAt vs i := by
  induction ns generalizing vs with
  | nil => simp [raiseL]
  | cons j ns ih =>
    have hp := List.nodup_cons.1 hd
    have hj0 := hj j (by simp)
    have hv0 := hv j (by simp)
    have hw : wrap64 (vAt vs j + 1) = vAt vs j + 1 := by
      unfold wrap64; omega
    rw [raiseL_cons, hw, ih hp.2 (fun k hk => by simpa using hj k (List.mem_cons_of_mem _ hk)) (fun k hk => by
      rw [vAt_set vs k j _ hj0]
      have hne : k ≠ j := fun e => hp.1 (e ▸ hk)
      rw [if_neg hne]
      exact hv k (List.mem_cons_of_mem _ hk)), vAt_set vs i j _ hj0]
    by_cases h : i = j
    · subst h
      simp [hp.1]
    · simp [h]

theorem versB_iff {vs : List Int} : versB vs = true ↔ vs.length = 15 ∧ ∀ i, i < 15 → 1 ≤ vAt vs i ∧ vAt vs i ≤ 1000000000 := by
  simp only [versB, Bool.and_eq_true, decide_eq_true_eq, versTo, List.all_eq_true, List.mem_range, verAt]
  constructor
  · rintro ⟨h, h'⟩
    exact ⟨h, fun i hi => h' i (by omega)⟩
  · rintro ⟨h, h'⟩
    exact ⟨h, fun i hi => h' i (by omega)⟩

theorem versB_raise {vs : List Int} (h : versB vs = true) (hroom : ∀ i, i < 15 → vAt vs i ≠ 1000000000) {ns : List Nat} (hd : ns.Nodup) (hj : ∀ j ∈ ns, j < 15) : versB (raiseL vs ns) = true := by
  obtain ⟨hl, hv⟩ := versB_iff.1 h
  refine versB_iff.2 ⟨by rw [raiseL_len, hl], fun i hi => ?_⟩
  rw [raiseL_at hd (fun j hm => by rw [hl]; exact hj j hm) (fun j hm => by have := hv j (hj j hm); omega)]
  have h1 := hv i hi
  have h2 := hroom i hi
  split <;> omega

end Go.Proofs.Ytjilbfohfgalkaa
