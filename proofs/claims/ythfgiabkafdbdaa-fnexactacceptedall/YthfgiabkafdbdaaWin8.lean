
/- l6Copy of the model. -/
import Derived.Test.YthfgiabkafdbdaaWin7
import Derived.Deep.RegionLaw
namespace Go.Proofs.Ythfgiabkafdbdaa.Wn
open Go.RowKit

theorem step_append_w {P : Program} (w : World) {ops : Array Oper} {o : Oper} {a : Act} {K : Act → World → Prop} {Q : Exit → Act → World → Prop} {E : Prop} (hw : Region.wanted o (yielded ops a.tmps) = true) (s x : Operand) (t : TypeId)
    (ho : o.op = .call { callee := .builtin .append, args := #[s, x], argTypes := #[t, t] })
    (base : Nat) (e : TypeId) (i : TypeInfo) (z : Value) (size bytes : Nat) (ht : P.underlying t = some (.slice e)) (hi : P.info? e = some i) (hz : i.zero = some z)
    (hsize : i.size = size) (hby : i.bytes = bytes) (hzs : z.cells.size = size) (hsz : 0 < size)
    (v : Value) (n : Nat) (xs : List Value) (hs : a.eval s = v) (hown : w.ownsRow base e size v n xs)
    (ad : Addr) (m c : Nat) (news : List Value) (hx : a.eval x = .slice (some ad) m c) (hl : news.length = m * size) (hnews : ∀ j u, news[j]? = some u → w.cell? (ad.add j) = some u) (h1 : ∀ u ∈ news, u.oneCell' = true)
    (hm : 0 < m) (h63 : n + m ≤ maxLen) (hbytes : (n + m) * bytes ≤ 140737488355328) (hbase : base ≤ w.heap.size) (H : Nat) (hH : w.heap.size = H)
    (h : ∀ g cap w', w'.ownsRow base e size (.slice (some ⟨g, 0, none⟩) (n + m) cap) (n + m) (xs ++ news) → w.grownBy w' v.ownBlock → (v.ownBlock = some g ∨ g = H) → g < w'.heap.size → K (a.put o.dst (.slice (some ⟨g, 0, none⟩) (n + m) cap)) w') :
    if Region.wanted o (yielded ops a.tmps) = true then Oper.wp P o a w K Q else E := by
  rw [if_pos hw]
  exact wp_append_lies w s x t ho base e i z size bytes ht hi hz hsize hby hzs hsz v n xs hs hown ad m c news hx hl hnews h1 hm h63 hbytes hbase H hH h
theorem one_cells (xs : List Int) : ∀ u ∈ xs.map (Value.int .i64), u.oneCell' = true := by
  intro u hu
  obtain ⟨x, _, rfl⟩ := List.mem_map.1 hu
  rfl
theorem news_seg {g : Nat} {xs : List Int} {W : World} (h : ISeg g 0 xs W) : ∀ j u, (xs.map (Value.int .i64))[j]? = some u → W.cell? ((⟨g, 0, none⟩ : Addr).add j) = some u := by
  intro j u hu
  have hj : j < xs.length := by
    have := (List.getElem?_eq_some_iff.1 hu).1
    simpa using this
  have hc := h j hj
  have e : (⟨g, 0, none⟩ : Addr).add j = ⟨g, 0 + j, none⟩ := by rw [Addr.add_mid]
  rw [e, hc]
  simp [hj] at hu ⊢
  exact hu
theorem seg_alloc {g : Nat} {xs : List Int} {W : World} (h : ISeg g 0 xs W) (hg : g < W.heap.size) (o : Obj) : ISeg g 0 xs (W.alloc o).drew := h.kept (by show (W.alloc o).heap[g]? = _; rw [Below.heap_alloc _ _ _ hg])
theorem blkD {W W' : World} {o x : Obj} {R : Nat} {row : Option Nat} (hg : (W.alloc o).drew.grownBy W' row) (h : W.heap[R]? = some x) (hne : row ≠ some R) : W'.heap[R]? = some x := by
  have hl := (Array.getElem?_eq_some_iff.1 h).1
  rw [hg.block R (by show R < (W.alloc o).heap.size; simp; omega) (fun e => hne e.symm)]
  show (W.alloc o).heap[R]? = _
  rw [Below.heap_alloc _ _ _ hl]
  exact h
theorem empty_own (W : World) {S : Nat} (h : W.heap.size = S) : (W.alloc (.cells #[] 2)).drew.ownsRow S 2 1 (.slice (some ⟨S, 0, none⟩) 0 0) 0 [] := by
  subst h
  exact World.ownsRow_lit (base := W.heap.size) (size := 1) W #[] 0 (Nat.le_refl _) (by decide) rfl
theorem ints_of {W : World} {B g N c : Nat} {ys : List Value} {xs : List Int} (h : W.ownsRow B 2 1 (.slice (some ⟨g, 0, none⟩) N c) N ys) (e : ys = xs.map (Value.int .i64)) : Ints B (.slice (some ⟨g, 0, none⟩) N c) xs W := by
  subst e
  have hN : xs.length = N := by have := h.1; simpa using this
  unfold Ints
  rw [hN]
  exact h

set_option maxRecDepth 100000 in
set_option maxHeartbeats 2000000 in
theorem l6Copy_any {B : Nat} {v : Value} {xs : List Int} {w : World} (top : Int) (h : Ints B v xs w) (hl : xs.length ≤ 40) :
    Calls Try.prog 46 #[wv top v] w fun e w' => ∃ v', e = .returned (wv top v') ∧ Ints w.heap.size v' xs w' ∧ Below w.heap.size w w' := by
  obtain ⟨i0, hi, hz0, hz1, hz2⟩ := info_parts infoI
  have hB0 := two_below w (wb top v) (wb 0 (.slice none 0 0))
  have t0 : ((w.alloc (wb top v)).alloc (wb 0 (.slice none 0 0))).heap[w.heap.size]? = some (wb top v) := by
    rw [Below.heap_alloc _ _ _ (by simp)]
    exact heap_alloc_new _ _
  have t1 : ((w.alloc (wb top v)).alloc (wb 0 (.slice none 0 0))).heap[w.heap.size + 1]? = some (wb 0 (.slice none 0 0)) := by
    have := heap_alloc_new (w.alloc (wb top v)) (wb 0 (.slice none 0 0))
    simpa using this
  have hs0 : ((w.alloc (wb top v)).alloc (wb 0 (.slice none 0 0))).heap.size = w.heap.size + 1 + 1 := by simp
  obtain ⟨a, c, hv, _, hrow⟩ := (h.since hB0).row
  subst hv
  have HR := hidOf hrow
  clear h hrow
  by_cases h0 : xs.length = 0
  · have hx := List.length_eq_zero_iff.1 h0
    subst hx
    go_enter Try.func46, Try.ntmps46
    go_wp2
    generalize (w.alloc (wb top (.slice a ([] : List Int).length c))).alloc (wb 0 (.slice none 0 0)) = w0 at *
    obtain ⟨⟨p0, p1⟩, f0, f1⟩ := box2 t0
    obtain ⟨⟨y0, y1⟩, j0, j1⟩ := box2 t1
    have HE : Hid (Ints w.heap.size (.slice (some ⟨w.heap.size + 1 + 1, 0, none⟩) 0 0) [] (((w0.setCell ⟨w.heap.size + 1, 0, none⟩ (.int .i64 top)).setCell ⟨w.heap.size + 1, 1, none⟩ (.slice (some ⟨w.heap.size + 1 + 1, 0, none⟩) 0 0)).alloc (.cells #[] 2)).drew) :=
      Ints.mono (B := w.heap.size + 1 + 1) (empty_own ((w0.setCell ⟨w.heap.size + 1, 0, none⟩ (.int .i64 top)).setCell ⟨w.heap.size + 1, 1, none⟩ (.slice (some ⟨w.heap.size + 1 + 1, 0, none⟩) 0 0)) (by simp [hs0])) (by omega)
    have HB1 : Hid (Below w.heap.size w (((w0.setCell ⟨w.heap.size + 1, 0, none⟩ (.int .i64 top)).setCell ⟨w.heap.size + 1, 1, none⟩ (.slice (some ⟨w.heap.size + 1 + 1, 0, none⟩) 0 0)).alloc (.cells #[] 2)).drew) := (((hB0.setCell (by simp) _).setCell (by simp) _).alloc (by simp [hs0]; omega) _).drew
    have HF : Hid ((((w0.setCell ⟨w.heap.size + 1, 0, none⟩ (.int .i64 top)).setCell ⟨w.heap.size + 1, 1, none⟩ (.slice (some ⟨w.heap.size + 1 + 1, 0, none⟩) 0 0)).alloc (.cells #[] 2)).drew.heap[w.heap.size + 1]? = some (wb top (.slice (some ⟨w.heap.size + 1 + 1, 0, none⟩) 0 0))) := by
      show (((w0.setCell ⟨w.heap.size + 1, 0, none⟩ (.int .i64 top)).setCell ⟨w.heap.size + 1, 1, none⟩ (.slice (some ⟨w.heap.size + 1 + 1, 0, none⟩) 0 0)).alloc (.cells #[] 2)).heap[w.heap.size + 1]? = _
      rw [Below.heap_alloc _ _ _ (by simp [hs0])]
      exact box2_set1 (box2_set0 t1 _) _
    cases a with
    | none =>
      go_region
      all_goals
        go_wp2
        have bF := HF.out
        have gB := HB1.out
        have gK := HE.out
        clear HF HB1 HE
        generalize (((w0.setCell ⟨w.heap.size + 1, 0, none⟩ (.int .i64 top)).setCell ⟨w.heap.size + 1, 1, none⟩ (.slice (some ⟨w.heap.size + 1 + 1, 0, none⟩) 0 0)).alloc (.cells #[] 2)).drew = WF at bF gB gK ⊢
        obtain ⟨⟨z0, z1⟩, _, _⟩ := box2 bF
        exact bodyPost_ret (v := wv top (.slice (some ⟨w.heap.size + 1 + 1, 0, none⟩) 0 0)) (by simp [results, Try.results46, go_sem, z0, z1]) rfl ⟨_, rfl, gK, gB⟩
    | some ad =>
      go_region
      all_goals
        go_wp2
        have bF := HF.out
        have gB := HB1.out
        have gK := HE.out
        clear HF HB1 HE
        generalize (((w0.setCell ⟨w.heap.size + 1, 0, none⟩ (.int .i64 top)).setCell ⟨w.heap.size + 1, 1, none⟩ (.slice (some ⟨w.heap.size + 1 + 1, 0, none⟩) 0 0)).alloc (.cells #[] 2)).drew = WF at bF gB gK ⊢
        obtain ⟨⟨z0, z1⟩, _, _⟩ := box2 bF
        exact bodyPost_ret (v := wv top (.slice (some ⟨w.heap.size + 1 + 1, 0, none⟩) 0 0)) (by simp [results, Try.results46, go_sem, z0, z1]) rfl ⟨_, rfl, gK, gB⟩
  · obtain ⟨g, ha, hg, hseg⟩ : ∃ g, a = some ⟨g, 0, none⟩ ∧ g < ((w.alloc (wb top (.slice a xs.length c))).alloc (wb 0 (.slice none 0 0))).heap.size ∧ ISeg g 0 xs ((w.alloc (wb top (.slice a xs.length c))).alloc (wb 0 (.slice none 0 0))) := by
      rcases HR.out with e | e
      · rw [e] at h0; simp at h0
      · exact e
    subst ha
    have HS := hidOf hseg
    clear hseg HR
    generalize hn : xs.length = n at *
    go_enter Try.func46, Try.ntmps46
    go_wp2
    generalize (w.alloc (wb top (.slice (some ⟨g, 0, none⟩) n c))).alloc (wb 0 (.slice none 0 0)) = w0 at *
    obtain ⟨⟨p0, p1⟩, f0, f1⟩ := box2 t0
    obtain ⟨⟨y0, y1⟩, j0, j1⟩ := box2 t1
    go_region_law (refine step_append_w _ (by rfl) _ _ _ (by rfl) (w.heap.size + 1 + 1) 2 i0 (.int .i64 0) 1 8 Try.underlying24 hi hz0 hz1 hz2 rfl (by omega) (.slice (some ⟨w.heap.size + 1 + 1, 0, none⟩) 0 0) 0 [] (by rfl) (by exact empty_own w0 hs0) ⟨g, 0, none⟩ n _ (xs.map (Value.int .i64)) (by rfl) (by simp [hn]) (by exact news_seg (seg_alloc HS.out hg _)) (one_cells _) (by omega) (by unfold maxLen; omega) (by omega) (by simp [hs0]) _ rfl ?_; intro gB cB wB hownB hgB hatB hltB; have s0 := blkD hgB t0 (fun e => by simp [Value.ownBlock] at e <;> omega); have s1 := blkD hgB t1 (fun e => by simp [Value.ownBlock] at e <;> omega); obtain ⟨⟨k0, k1⟩, l0, l1⟩ := box2 s0; obtain ⟨⟨m0, m1⟩, n0, n1⟩ := box2 s1; have hgBl := (World.ownsRow.lt hownB gB rfl).1; simp only [Nat.zero_add, List.nil_append] at hownB)
    all_goals
      have hI := ints_of hownB rfl
      have hlt := hI.lt
      have HK : Hid (Ints w.heap.size (.slice (some ⟨gB, 0, none⟩) n cB) xs ((wB.setCell ⟨w.heap.size + 1, 0, none⟩ (.int .i64 top)).setCell ⟨w.heap.size + 1, 1, none⟩ (.slice (some ⟨gB, 0, none⟩) n cB))) :=
        ((hI.mono (by omega)).kept (grown_set _ _ _ _) (fun k e e' => by cases e; have := (hlt _ e').1; omega)).kept (grown_set _ _ _ _) (fun k e e' => by cases e; have := (hlt _ e').1; omega)
      have HF : Hid (((wB.setCell ⟨w.heap.size + 1, 0, none⟩ (.int .i64 top)).setCell ⟨w.heap.size + 1, 1, none⟩ (.slice (some ⟨gB, 0, none⟩) n cB)).heap[w.heap.size + 1]? = some (wb top (.slice (some ⟨gB, 0, none⟩) n cB))) := box2_set1 (box2_set0 s1 _) _
      have hBB : Below w.heap.size w wB := ((hB0.alloc hB0.size _).drew).grown hgB (by simp [hs0]; omega) (fun k e => by simp [Value.ownBlock] at e; omega)
      have HB1 : Hid (Below w.heap.size w ((wB.setCell ⟨w.heap.size + 1, 0, none⟩ (.int .i64 top)).setCell ⟨w.heap.size + 1, 1, none⟩ (.slice (some ⟨gB, 0, none⟩) n cB))) := (hBB.setCell (by simp) _).setCell (by simp) _
      clear hBB hI hlt hownB hgB s0 s1
      go_wp2
      have bF := HF.out
      have gB' := HB1.out
      have gK := HK.out
      clear HF HB1 HK
      generalize (wB.setCell ⟨w.heap.size + 1, 0, none⟩ (.int .i64 top)).setCell ⟨w.heap.size + 1, 1, none⟩ (.slice (some ⟨gB, 0, none⟩) n cB) = WF at bF gB' gK ⊢
      obtain ⟨⟨z0, z1⟩, _, _⟩ := box2 bF
      exact bodyPost_ret (v := wv top (.slice (some ⟨gB, 0, none⟩) n cB)) (by simp [results, Try.results46, go_sem, z0, z1]) rfl ⟨_, rfl, gK, gB'⟩
end Go.Proofs.Ythfgiabkafdbdaa.Wn
