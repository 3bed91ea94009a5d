
/- l6Accepted of the model. -/
import Derived.Test.YthfgiabkafdbdaaWin8
namespace Go.Proofs.Ythfgiabkafdbdaa.Wn
open Go.RowKit

theorem l1In_true (n lo hi : Int) (w : World) (h : lo ≤ n ∧ n ≤ hi) :
    Calls Try.prog 45 #[.int .i64 n, .int .i64 lo, .int .i64 hi] w fun e w' => e = .returned (.bool true) ∧ w' = w := by
  have := l1In_any n lo hi w
  rwa [decide_eq_true h] at this
theorem l1In_false (n lo hi : Int) (w : World) (h : ¬ (lo ≤ n ∧ n ≤ hi)) :
    Calls Try.prog 45 #[.int .i64 n, .int .i64 lo, .int .i64 hi] w fun e w' => e = .returned (.bool false) ∧ w' = w := by
  have := l1In_any n lo hi w
  rwa [decide_eq_false h] at this
theorem cell_one (W : World) (t : TypeId) (x : Value) : ∀ j u, [x][j]? = some u → (W.alloc (.cells #[x] t)).cell? ((⟨W.heap.size, 0, none⟩ : Addr).add j) = some u := by
  intro j u hu
  cases j with
  | zero => simp at hu; subst hu; simp [Addr.add]
  | succ j => simp at hu
theorem own_lit {W : World} {B n : Nat} {v : Value} {xs : List Int} (h : Ints B v xs W) (hn : xs.length = n) (o : Obj) : (W.alloc o).drew.ownsRow B 2 1 v n (xs.map (Value.int .i64)) := by
  subst hn
  exact World.ownsRow.alloc h o
theorem own_lit2 {W : World} {B n : Nat} {v : Value} {xs : List Int} (h : Ints B v xs W) (hn : xs.length = n) (o : Obj) : (W.alloc o).ownsRow B 2 1 v n (xs.map (Value.int .i64)) := by
  subst hn
  exact World.ownsRow.alloc h o
theorem acc_not {top n : Int} {xs : List Int} (h : ¬ takes top xs n) : accT top xs n = top ∧ accX top xs n = xs ∧ accB top xs n = false := ⟨if_neg h, if_neg h, decide_eq_false h⟩
theorem not_take_succ {xs : List Int} {k : Nat} {n : Int} (h : n ∉ xs.take k) (hk : k < xs.length) (hne : xs[k] ≠ n) : n ∉ xs.take (k + 1) := by
  rw [take_mem hk]
  rintro (e | e)
  · exact h e
  · exact hne e.symm

set_option maxRecDepth 100000 in
set_option maxHeartbeats 8000000 in
theorem l6Accepted_any {B : Nat} {v : Value} {xs : List Int} {w : World} (top n : Int) (h : Ints B v xs w) (hw : WinOk top xs) :
    Calls Try.prog 44 #[wv top v, .int .i64 n] w fun e w' => ∃ v', e = .returned (.tuple #[wv (accT top xs n) v', .bool (accB top xs n)]) ∧ Ints w.heap.size v' (accX top xs n) w' ∧ Below w.heap.size w w' := by
  obtain ⟨i0, hi, hz0, hz1, hz2⟩ := info_parts infoI
  have hr := hw.range
  have hl := hw.len
  have HW := hidOf hw
  clear hw
  obtain ⟨a, c, hv, _, hrow⟩ := h.row
  subst hv
  have HR := hidOf hrow
  clear hrow
  have hB0 := two_below w (wb top (.slice a xs.length c)) (wb 0 (.slice none 0 0))
  obtain ⟨c0, c1⟩ := cellW w top (.slice a xs.length c)
  have d0 := cell_since c0 (one_below _ (wb 0 (.slice none 0 0)))
  have d1 := cell_since c1 (one_below _ (wb 0 (.slice none 0 0)))
  have t0 : ((w.alloc (wb top (.slice a xs.length c))).alloc (wb 0 (.slice none 0 0))).heap[w.heap.size]? = some (wb top (.slice a xs.length c)) := by
    rw [Below.heap_alloc _ _ _ (by simp)]
    exact heap_alloc_new _ _
  have t1 : ((w.alloc (wb top (.slice a xs.length c))).alloc (wb 0 (.slice none 0 0))).heap[w.heap.size + 1]? = some (wb 0 (.slice none 0 0)) := by
    have := heap_alloc_new (w.alloc (wb top (.slice a xs.length c))) (wb 0 (.slice none 0 0))
    simpa using this
  have hs0 : ((w.alloc (wb top (.slice a xs.length c))).alloc (wb 0 (.slice none 0 0))).heap.size = w.heap.size + 1 + 1 := by simp
  have HI := hidOf (h.since hB0)
  have HJ0 := hidOf (h.mono (Nat.zero_le B))
  clear h c0 c1
  by_cases hin : max 1 (top - 32 + 1) ≤ n ∧ n ≤ 1000000000
  case neg =>
    have HA := hidOf (acc_not (xs := xs) (show ¬ takes top xs n from fun t => hin ⟨by have := t.1; have := t.2.2.1; omega, t.2.1⟩))
    by_cases hmx : top - 32 + 1 ≤ 1
    all_goals
      go_enter Try.func44, Try.ntmps44
      go_wp2_with fail
      generalize (w.alloc (wb top (.slice a xs.length c))).alloc (wb 0 (.slice none 0 0)) = w0 at *
      refine (l1In_false _ _ _ _ (by omega)).mono ?_
      rintro e w1 ⟨rfl, hww⟩
      subst hww
      go_wp2_with fail
      refine (l6Copy_any top HI.out (by omega)).mono ?_
      rintro e w2 ⟨v2, rfl, k2, b2⟩
      obtain ⟨a2, c2, hv2, _, _⟩ := k2.row
      subst hv2
      have s1 := (b2.block (w.heap.size + 1) (by omega)).trans t1
      have hB2 := more hB0 b2
      have hs2 := b2.size
      obtain ⟨⟨y0, y1⟩, j0, j1⟩ := box2 s1
      have hlt := k2.lt
      have HF : Hid (((w2.setCell ⟨w.heap.size + 1, 0, none⟩ (.int .i64 top)).setCell ⟨w.heap.size + 1, 1, none⟩ (.slice a2 xs.length c2)).heap[w.heap.size + 1]? = some (wb top (.slice a2 xs.length c2))) := box2_set1 (box2_set0 s1 _) _
      have HB' : Hid (Below w.heap.size w ((w2.setCell ⟨w.heap.size + 1, 0, none⟩ (.int .i64 top)).setCell ⟨w.heap.size + 1, 1, none⟩ (.slice a2 xs.length c2))) := (hB2.setCell (by simp) _).setCell (by simp) _
      have HK : Hid (Ints w.heap.size (.slice a2 xs.length c2) xs ((w2.setCell ⟨w.heap.size + 1, 0, none⟩ (.int .i64 top)).setCell ⟨w.heap.size + 1, 1, none⟩ (.slice a2 xs.length c2))) :=
        ((k2.mono (by omega)).kept (grown_set _ _ _ _) (fun k e e' => by cases e; have := (hlt _ e').1; omega)).kept (grown_set _ _ _ _) (fun k e e' => by cases e; have := (hlt _ e').1; omega)
      clear s1 k2 hlt b2
      go_wp2
      have bF := HF.out
      have gB := HB'.out
      have gA := HA.out
      have gK := HK.out
      clear HF HB' HA HK
      generalize (w2.setCell ⟨w.heap.size + 1, 0, none⟩ (.int .i64 top)).setCell ⟨w.heap.size + 1, 1, none⟩ (.slice a2 xs.length c2) = WF at bF gB gK ⊢
      obtain ⟨⟨z0, z1⟩, _, _⟩ := box2 bF
      exact bodyPost_ret (v := .tuple #[wv top (.slice a2 xs.length c2), .bool false]) (by simp [results, Try.results44, go_sem, z0, z1]) rfl ⟨.slice a2 xs.length c2, by rw [gA.1, gA.2.2], by rw [gA.2.1]; exact gK, gB⟩
  have HJ : Hid (Ints 0 (.slice a xs.length c) xs w) := HJ0
  obtain ⟨lo, hlo, hlo1⟩ : ∃ lo, (if 1 < top - 32 + 1 then top - 32 + 1 else 1) = lo ∧ lo ≤ n := ⟨_, rfl, by split <;> omega⟩
  obtain ⟨T, hTm, hTi, hT1, hT2⟩ : ∃ T, max top n = T ∧ (if top < n then n else top) = T ∧ T - 32 < n ∧ T ≤ 1000000000 := ⟨max top n, rfl, by split <;> omega, by omega, by omega⟩
  have hB3 : Below w.heap.size w (((w.alloc (wb top (.slice a xs.length c))).alloc (wb 0 (.slice none 0 0))).alloc (wb T (.slice none 0 0))) := hB0.alloc hB0.size _
  have u0 : (((w.alloc (wb top (.slice a xs.length c))).alloc (wb 0 (.slice none 0 0))).alloc (wb T (.slice none 0 0))).heap[w.heap.size]? = some (wb top (.slice a xs.length c)) := by rw [Below.heap_alloc _ _ _ (by omega)]; exact t0
  have u1 : (((w.alloc (wb top (.slice a xs.length c))).alloc (wb 0 (.slice none 0 0))).alloc (wb T (.slice none 0 0))).heap[w.heap.size + 1]? = some (wb 0 (.slice none 0 0)) := by rw [Below.heap_alloc _ _ _ (by omega)]; exact t1
  have u2 : (((w.alloc (wb top (.slice a xs.length c))).alloc (wb 0 (.slice none 0 0))).alloc (wb T (.slice none 0 0))).heap[w.heap.size + 1 + 1]? = some (wb T (.slice none 0 0)) := by
    have := heap_alloc_new ((w.alloc (wb top (.slice a xs.length c))).alloc (wb 0 (.slice none 0 0))) (wb T (.slice none 0 0))
    simpa using this
  have hs3 : (((w.alloc (wb top (.slice a xs.length c))).alloc (wb 0 (.slice none 0 0))).alloc (wb T (.slice none 0 0))).heap.size = w.heap.size + 1 + 1 + 1 := by simp
  have HI3 := hidOf (HI.out.since (one_below _ (wb T (.slice none 0 0))))
  go_enter Try.func44, Try.ntmps44
  go_wp2_with fail
  refine (l1In_true _ _ _ _ (by omega)).mono ?_
  rintro e w1 ⟨rfl, hww⟩
  subst hww
  clear t0 t1 hs0 hB0 d0 d1 HI
  go_wp2
  generalize ((w.alloc (wb top (.slice a xs.length c))).alloc (wb 0 (.slice none 0 0))).alloc (wb T (.slice none 0 0)) = w3 at *
  generalize hN : xs.length = N at *
  go_loopw [7, 8] (fun dv i wr => ∃ (k : Nat) (d : Bool) (out : List Int) (ao : Option Addr) (on co : Nat), dv = .bool d ∧ i = .int .i64 (k : Int) ∧ k ≤ N ∧ Hid (Ins T n xs k d out) ∧ Hid (n ∉ xs.take k) ∧ wr.heap[w.heap.size]? = some (wb top (.slice a N c)) ∧ wr.heap[w.heap.size + 1]? = some (wb 0 (.slice none 0 0)) ∧ wr.heap[w.heap.size + 1 + 1]? = some (wb T (.slice ao on co)) ∧ Hid (Ints (w.heap.size + 1 + 1 + 1) (.slice ao on co) out wr) ∧ out.length = on ∧ Below w.heap.size w wr ∧ w.heap.size + 1 + 1 + 1 ≤ wr.heap.size) (fun _ i _ => N - (intOf i).toNat)
  case atStart => exact ⟨0, false, [], none, 0, 0, rfl, rfl, Nat.zero_le _, Ins.start _ _ _, (by show n ∉ xs.take 0; simp), u0, u1, u2, ⟨by simp, .inl ⟨rfl, rfl⟩⟩, rfl, hB3, by omega⟩
  case round =>
    obtain ⟨k, d, out, ao, on, co, rfl, rfl, hkN, HS, HT, r0, r1, r2, HO, hon, hBx, hsx⟩ := hrel
    clear u0 u1 u2 hB3 HI3
    obtain ⟨⟨p0, p1⟩, f0, f1⟩ := box2 r0
    obtain ⟨⟨q0, q1⟩, g0, g1⟩ := box2 r2
    have hol : out.length ≤ k + 1 := by have := HS.out.2.2.2.2.2; have : d.toNat ≤ 1 := by cases d <;> simp
                                        omega
    have hne : ∀ j, (Value.slice ao on co).ownBlock = some j → w.heap.size + 1 + 1 + 1 ≤ j := fun j e => (HO.out.lt j e).1
    by_cases hlt : k < N
    · obtain ⟨g, ha, hg, hseg⟩ : ∃ g, a = some ⟨g, 0, none⟩ ∧ g < w.heap.size ∧ ISeg g 0 xs w := by
        rcases HR.out with e | e
        · rw [e] at hN; simp at hN; omega
        · exact e
      subst ha
      have a1 := hseg k (by omega)
      simp only [Nat.zero_add] at a1
      have e1 := (hBx.cell (p := ⟨g, k, none⟩) hg).trans a1
      have HX := hidOf (show ∃ h : k < xs.length, xs[k] = xs[k] from ⟨by omega, rfl⟩)
      have hkl : k < xs.length := by omega
      clear hseg a1
      by_cases hxn : xs[k] = n
      · have hxn' : (xs[k] == n) = true := by simpa using hxn
        have hmem : n ∈ xs := by rw [← hxn]; exact List.getElem_mem hkl
        have HA := hidOf (acc_not (xs := xs) (show ¬ takes top xs n from fun t => t.2.2.2 hmem))
        have HIw : Hid (Ints 0 (.slice (some ⟨g, 0, none⟩) N c) xs wr) := HJ.out.below hBx (fun j e => by simp [Value.ownBlock] at e; omega)
        rw [hxn] at e1 hxn'
        go_wp2_with fail
        refine (l6Copy_any top HIw.out (by omega)).mono ?_
        rintro e w2 ⟨v2, rfl, k2, b2⟩
        obtain ⟨a2, c2, hv2, _, _⟩ := k2.row
        rw [hN] at hv2
        subst hv2
        have s1 := (b2.block (w.heap.size + 1) (by omega)).trans r1
        have hB2 := more hBx b2
        have hs2 := b2.size
        obtain ⟨⟨y0, y1⟩, j0, j1⟩ := box2 s1
        have hlt := k2.lt
        have HF : Hid (((w2.setCell ⟨w.heap.size + 1, 0, none⟩ (.int .i64 top)).setCell ⟨w.heap.size + 1, 1, none⟩ (.slice a2 N c2)).heap[w.heap.size + 1]? = some (wb top (.slice a2 N c2))) := box2_set1 (box2_set0 s1 _) _
        have HB' : Hid (Below w.heap.size w ((w2.setCell ⟨w.heap.size + 1, 0, none⟩ (.int .i64 top)).setCell ⟨w.heap.size + 1, 1, none⟩ (.slice a2 N c2))) := (hB2.setCell (by simp) _).setCell (by simp) _
        have HK : Hid (Ints w.heap.size (.slice a2 N c2) xs ((w2.setCell ⟨w.heap.size + 1, 0, none⟩ (.int .i64 top)).setCell ⟨w.heap.size + 1, 1, none⟩ (.slice a2 N c2))) :=
          ((k2.mono (by omega)).kept (grown_set _ _ _ _) (fun k e e' => by cases e; have := (hlt _ e').1; omega)).kept (grown_set _ _ _ _) (fun k e e' => by cases e; have := (hlt _ e').1; omega)
        clear s1 k2 hlt b2
        go_wp2
        have bF := HF.out
        have gB := HB'.out
        have gA := HA.out
        have gK := HK.out
        clear HF HB' HA HK
        generalize (w2.setCell ⟨w.heap.size + 1, 0, none⟩ (.int .i64 top)).setCell ⟨w.heap.size + 1, 1, none⟩ (.slice a2 N c2) = WF at bF gB gK ⊢
        obtain ⟨⟨z0, z1⟩, _, _⟩ := box2 bF
        exact bodyPost_ret (v := .tuple #[wv top (.slice a2 N c2), .bool false]) (by simp [results, Try.results44, go_sem, z0, z1]) rfl ⟨.slice a2 N c2, by rw [gA.1, gA.2.2], by rw [gA.2.1]; exact gK, gB⟩
      · have hxn' : (xs[k] == n) = false := by simpa using hxn
        have HTn := hidOf (not_take_succ HT.out hkl hxn)
        have hTn : T - 32 < n := by omega
        have HXx := hidOf (rfl : xs[k] = xs[k])
        obtain ⟨x, hx⟩ : ∃ x, xs[k] = x := ⟨_, rfl⟩
        rw [hx] at e1 hxn' hxn
        cases d with
        | true =>
          have hgt := HS.out.bigger hkl
          rw [hx] at hgt
          have hTx : T - 32 < x := by omega
          have HN := hidOf (HS.out.next HW.out.up hkl (fun e => by cases e) (by rw [hx]; exact hTx))
          rw [hx] at HN
          go_wp2
          go_quiet (fail)
          go_wp2
          have r0 : (wr.drewN nq).heap[w.heap.size]? = some (wb top (.slice (some ⟨g, 0, none⟩) N c)) := r0
          have r1 : (wr.drewN nq).heap[w.heap.size + 1]? = some (wb 0 (.slice none 0 0)) := r1
          have r2 : (wr.drewN nq).heap[w.heap.size + 1 + 1]? = some (wb T (.slice ao on co)) := r2
          have HO : Hid (Ints (w.heap.size + 1 + 1 + 1) (.slice ao on co) out (wr.drewN nq)) := HO
          have hBx : Below w.heap.size w (wr.drewN nq) := below_drewN hBx nq
          have hsx : w.heap.size + 1 + 1 + 1 ≤ (wr.drewN nq).heap.size := hsx
          have e1 : (wr.drewN nq).cell? ⟨g, k, none⟩ = some (.int .i64 x) := e1
          generalize wr.drewN nq = wq at *
          obtain ⟨⟨p0, p1⟩, f0, f1⟩ := box2 r0
          obtain ⟨⟨q0, q1⟩, g0, g1⟩ := box2 r2
          have x1 := cell_since p1 (one_below wq (.cells #[.int .i64 x] 2))
          have x2 := cell_since q1 (one_below wq (.cells #[.int .i64 x] 2))
          have x3 := cell_since e1 (one_below wq (.cells #[.int .i64 x] 2))
          go_region_law (refine step_append_w _ (by rfl) _ _ _ (by rfl) (w.heap.size + 1 + 1 + 1) 2 i0 (.int .i64 0) 1 8 Try.underlying24 hi hz0 hz1 hz2 rfl (by omega) (.slice ao (on) co) (on) _ (by rfl) (by exact own_lit HO.out hon _) ⟨wq.heap.size, 0, none⟩ 1 _ [.int .i64 x] (by rfl) (by rfl) (by exact cell_one _ _ _) (by simp [Value.oneCell']) (by omega) (by unfold maxLen; omega) (by omega) (by simp <;> omega) _ rfl ?_; intro gB cB wB hownB hgB hatB hltB; have s0 := blkD hgB r0 (fun e => by have := hne _ e; omega); have s1 := blkD hgB r1 (fun e => by have := hne _ e; omega); have s2 := blkD hgB r2 (fun e => by have := hne _ e; omega); have hsB := hgB.size; have HgB := hidOf hgB; clear hgB; obtain ⟨⟨k0, k1⟩, l0, l1⟩ := box2 s0; obtain ⟨⟨m0, m1⟩, n0, n1⟩ := box2 s2)
          all_goals
            have hsB' : w.heap.size + 1 + 1 + 1 ≤ wB.heap.size := by simp at hsB; omega
            have hI := ints_of (xs := out ++ [x]) hownB (by simp)
            have hlt := hI.lt
            have HBB : Hid (Below w.heap.size w wB) := ((hBx.alloc hBx.size _).drew).grown HgB.out (by simp <;> omega) (fun k e => by have := hne _ e; omega)
            have A0 := hidOf (blk (grown_set wB (w.heap.size + 1 + 1) 1 (.slice (some ⟨gB, 0, none⟩) (on + 1) cB)) s0 (by omega))
            have A1 := hidOf (blk (grown_set wB (w.heap.size + 1 + 1) 1 (.slice (some ⟨gB, 0, none⟩) (on + 1) cB)) s1 (by omega))
            have A2 := hidOf (box2_set1 s2 (.slice (some ⟨gB, 0, none⟩) (on + 1) cB))
            have HK : Hid (Ints (w.heap.size + 1 + 1 + 1) (.slice (some ⟨gB, 0, none⟩) (on + 1) cB) (out ++ [x]) (wB.setCell ⟨w.heap.size + 1 + 1, 1, none⟩ (.slice (some ⟨gB, 0, none⟩) (on + 1) cB))) := hI.kept (grown_set _ _ _ _) (fun k e e' => by cases e; have := (hlt _ e').1; omega)
            clear hI hlt hownB HgB s0 s1 s2
            go_wp2
            go_roundw
            case rel => exact ⟨k + 1, true, out ++ [x], some ⟨gB, 0, none⟩, on + 1, cB, rfl, by go_num, by omega, HN.out, HTn.out, A0.out, A1.out, A2.out, HK.out, by simp; omega, below_set HBB.out _ _ _ (by omega) (by omega), by simp; omega⟩
            case measure => simp [intOf] <;> omega
        | false =>
          by_cases hgt2 : n < x
          · have HN8 := hidOf (HS.out.here HW.out.up hkl (by rw [hx]; exact hgt2) hTn)
            rw [hx] at HN8
            have hTx : T - 32 < x := by omega
            go_wp2_with (at_builtin; refine wpList_append_own _ rfl _ _ 24 rfl (w.heap.size + 1 + 1 + 1) 2 i0 (.int .i64 0) 1 8 Try.underlying24 hi hz0 hz1 hz2 rfl (by decide) _ _ _ rfl (own_lit2 HO.out hon _) ⟨wr.heap.size, 0, none⟩ 1 1 [.int .i64 n] rfl rfl (cell_one _ _ _) (by simp [Value.oneCell']) (by unfold maxLen; omega) (by omega) (by simp <;> omega) ?_; intro v' w8 hown' hgrow _; obtain ⟨a8, c8, hv', hI'⟩ := ints_row (xs := out ++ [n]) hown' (by simp); have hL8 : (out ++ [n]).length = on + 1 := (by simp [hon]); rw [hL8] at hv' hI'; subst hv'; have s0 := blkA hgrow r0 (fun e => by have := hne _ e; omega); have s1 := blkA hgrow r1 (fun e => by have := hne _ e; omega); have s2 := blkA hgrow r2 (fun e => by have := hne _ e; omega); have hs8 := hgrow.size; simp only [World.size_alloc] at hs8; have HB8 : Hid (Below w.heap.size w w8) := (hBx.alloc hBx.size _).grown hgrow (by simp <;> omega) (fun k e => by have := hne _ e; omega); have HI8 := hidOf hI'; have e8 : w8.cell? ⟨g, k, none⟩ = some (.int .i64 x) := (HB8.out.cell (p := ⟨g, k, none⟩) hg).trans ((hBx.cell (p := ⟨g, k, none⟩) hg).symm.trans e1); clear hown' hI' hgrow p0 p1 f0 f1 q0 q1 g0 g1 r0 r1 r2 e1 HO; obtain ⟨⟨q0, q1⟩, g0, g1⟩ := box2 s2)
            have r0 : (w8.setCell ⟨w.heap.size + 1 + 1, 1, none⟩ (.slice a8 (on + 1) c8)).heap[w.heap.size]? = some (wb top (.slice (some ⟨g, 0, none⟩) N c)) := blk (grown_set w8 (w.heap.size + 1 + 1) 1 (.slice a8 (on + 1) c8)) s0 (by omega)
            have r1 : (w8.setCell ⟨w.heap.size + 1 + 1, 1, none⟩ (.slice a8 (on + 1) c8)).heap[w.heap.size + 1]? = some (wb 0 (.slice none 0 0)) := blk (grown_set w8 (w.heap.size + 1 + 1) 1 (.slice a8 (on + 1) c8)) s1 (by omega)
            have r2 := box2_set1 s2 (.slice a8 (on + 1) c8)
            have hne8 : ∀ j, (Value.slice a8 (on + 1) c8).ownBlock = some j → w.heap.size + 1 + 1 + 1 ≤ j := fun j e => (HI8.out.lt j e).1
            have HO8 : Hid (Ints (w.heap.size + 1 + 1 + 1) (.slice a8 (on + 1) c8) (out ++ [n]) (w8.setCell ⟨w.heap.size + 1 + 1, 1, none⟩ (.slice a8 (on + 1) c8))) := HI8.out.kept (grown_set _ _ _ _) (fun k e e' => by cases e; have := hne8 _ e'; omega)
            have hB9 : Below w.heap.size w (w8.setCell ⟨w.heap.size + 1 + 1, 1, none⟩ (.slice a8 (on + 1) c8)) := below_set HB8.out _ _ _ (by omega) (by omega)
            have e1 : (w8.setCell ⟨w.heap.size + 1 + 1, 1, none⟩ (.slice a8 (on + 1) c8)).cell? ⟨g, k, none⟩ = some (.int .i64 x) := (hB9.cell (p := ⟨g, k, none⟩) hg).trans ((HB8.out.cell (p := ⟨g, k, none⟩) hg).symm.trans e8)
            have hs9 : w.heap.size + 1 + 1 + 1 ≤ (w8.setCell ⟨w.heap.size + 1 + 1, 1, none⟩ (.slice a8 (on + 1) c8)).heap.size := by simp <;> omega
            clear s0 s1 s2 HB8 HI8 e8 q0 q1 g0 g1
            generalize w8.setCell ⟨w.heap.size + 1 + 1, 1, none⟩ (.slice a8 (on + 1) c8) = w9 at *
            obtain ⟨⟨p0, p1⟩, f0, f1⟩ := box2 r0
            obtain ⟨⟨q0, q1⟩, g0, g1⟩ := box2 r2
            go_quiet (fail)
            go_wp2
            have r0 : (w9.drewN nq).heap[w.heap.size]? = some (wb top (.slice (some ⟨g, 0, none⟩) N c)) := r0
            have r1 : (w9.drewN nq).heap[w.heap.size + 1]? = some (wb 0 (.slice none 0 0)) := r1
            have r2 : (w9.drewN nq).heap[w.heap.size + 1 + 1]? = some (wb T (.slice a8 (on + 1) c8)) := r2
            have HO8 : Hid (Ints (w.heap.size + 1 + 1 + 1) (.slice a8 (on + 1) c8) (out ++ [n]) (w9.drewN nq)) := HO8
            have hBx : Below w.heap.size w (w9.drewN nq) := below_drewN hB9 nq
            have hsx : w.heap.size + 1 + 1 + 1 ≤ (w9.drewN nq).heap.size := hs9
            have e1 : (w9.drewN nq).cell? ⟨g, k, none⟩ = some (.int .i64 x) := e1
            generalize w9.drewN nq = wq at *
            obtain ⟨⟨p0, p1⟩, f0, f1⟩ := box2 r0
            obtain ⟨⟨q0, q1⟩, g0, g1⟩ := box2 r2
            have x1 := cell_since p1 (one_below wq (.cells #[.int .i64 x] 2))
            have x2 := cell_since q1 (one_below wq (.cells #[.int .i64 x] 2))
            have x3 := cell_since e1 (one_below wq (.cells #[.int .i64 x] 2))
            go_region_law (refine step_append_w _ (by rfl) _ _ _ (by rfl) (w.heap.size + 1 + 1 + 1) 2 i0 (.int .i64 0) 1 8 Try.underlying24 hi hz0 hz1 hz2 rfl (by omega) (.slice a8 (on + 1) c8) (on + 1) _ (by rfl) (by exact own_lit HO8.out hL8 _) ⟨wq.heap.size, 0, none⟩ 1 _ [.int .i64 x] (by rfl) (by rfl) (by exact cell_one _ _ _) (by simp [Value.oneCell']) (by omega) (by unfold maxLen; omega) (by omega) (by simp <;> omega) _ rfl ?_; intro gB cB wB hownB hgB hatB hltB; have s0 := blkD hgB r0 (fun e => by have := hne8 _ e; omega); have s1 := blkD hgB r1 (fun e => by have := hne8 _ e; omega); have s2 := blkD hgB r2 (fun e => by have := hne8 _ e; omega); have hsB := hgB.size; have HgB := hidOf hgB; clear hgB; obtain ⟨⟨k0, k1⟩, l0, l1⟩ := box2 s0; obtain ⟨⟨m0, m1⟩, n0, n1⟩ := box2 s2)
            all_goals
              have hsB' : w.heap.size + 1 + 1 + 1 ≤ wB.heap.size := by simp at hsB; omega
              have hI := ints_of (xs := (out ++ [n]) ++ [x]) hownB (by simp)
              have hlt := hI.lt
              have HBB : Hid (Below w.heap.size w wB) := ((hBx.alloc hBx.size _).drew).grown HgB.out (by simp <;> omega) (fun k e => by have := hne8 _ e; omega)
              have A0 := hidOf (blk (grown_set wB (w.heap.size + 1 + 1) 1 (.slice (some ⟨gB, 0, none⟩) (on + 1 + 1) cB)) s0 (by omega))
              have A1 := hidOf (blk (grown_set wB (w.heap.size + 1 + 1) 1 (.slice (some ⟨gB, 0, none⟩) (on + 1 + 1) cB)) s1 (by omega))
              have A2 := hidOf (box2_set1 s2 (.slice (some ⟨gB, 0, none⟩) (on + 1 + 1) cB))
              have HK : Hid (Ints (w.heap.size + 1 + 1 + 1) (.slice (some ⟨gB, 0, none⟩) (on + 1 + 1) cB) ((out ++ [n]) ++ [x]) (wB.setCell ⟨w.heap.size + 1 + 1, 1, none⟩ (.slice (some ⟨gB, 0, none⟩) (on + 1 + 1) cB))) := hI.kept (grown_set _ _ _ _) (fun k e e' => by cases e; have := (hlt _ e').1; omega)
              clear hI hlt hownB HgB s0 s1 s2
              go_wp2
              go_roundw
              case rel => exact ⟨k + 1, true, (out ++ [n]) ++ [x], some ⟨gB, 0, none⟩, on + 1 + 1, cB, rfl, by go_num, by omega, HN8.out, HTn.out, A0.out, A1.out, A2.out, HK.out, by simp; omega, below_set HBB.out _ _ _ (by omega) (by omega), by simp; omega⟩
              case measure => simp [intOf] <;> omega
          · have hlt2 : x < n := by omega
            by_cases hTx : T - 32 < x
            · have HN := hidOf (HS.out.next HW.out.up hkl (fun _ => by rw [hx]; exact hlt2) (by rw [hx]; exact hTx))
              rw [hx] at HN
              go_wp2
              go_quiet (fail)
              go_wp2
              have r0 : (wr.drewN nq).heap[w.heap.size]? = some (wb top (.slice (some ⟨g, 0, none⟩) N c)) := r0
              have r1 : (wr.drewN nq).heap[w.heap.size + 1]? = some (wb 0 (.slice none 0 0)) := r1
              have r2 : (wr.drewN nq).heap[w.heap.size + 1 + 1]? = some (wb T (.slice ao on co)) := r2
              have HO : Hid (Ints (w.heap.size + 1 + 1 + 1) (.slice ao on co) out (wr.drewN nq)) := HO
              have hBx : Below w.heap.size w (wr.drewN nq) := below_drewN hBx nq
              have hsx : w.heap.size + 1 + 1 + 1 ≤ (wr.drewN nq).heap.size := hsx
              have e1 : (wr.drewN nq).cell? ⟨g, k, none⟩ = some (.int .i64 x) := e1
              generalize wr.drewN nq = wq at *
              obtain ⟨⟨p0, p1⟩, f0, f1⟩ := box2 r0
              obtain ⟨⟨q0, q1⟩, g0, g1⟩ := box2 r2
              have x1 := cell_since p1 (one_below wq (.cells #[.int .i64 x] 2))
              have x2 := cell_since q1 (one_below wq (.cells #[.int .i64 x] 2))
              have x3 := cell_since e1 (one_below wq (.cells #[.int .i64 x] 2))
              go_region_law (refine step_append_w _ (by rfl) _ _ _ (by rfl) (w.heap.size + 1 + 1 + 1) 2 i0 (.int .i64 0) 1 8 Try.underlying24 hi hz0 hz1 hz2 rfl (by omega) (.slice ao (on) co) (on) _ (by rfl) (by exact own_lit HO.out hon _) ⟨wq.heap.size, 0, none⟩ 1 _ [.int .i64 x] (by rfl) (by rfl) (by exact cell_one _ _ _) (by simp [Value.oneCell']) (by omega) (by unfold maxLen; omega) (by omega) (by simp <;> omega) _ rfl ?_; intro gB cB wB hownB hgB hatB hltB; have s0 := blkD hgB r0 (fun e => by have := hne _ e; omega); have s1 := blkD hgB r1 (fun e => by have := hne _ e; omega); have s2 := blkD hgB r2 (fun e => by have := hne _ e; omega); have hsB := hgB.size; have HgB := hidOf hgB; clear hgB; obtain ⟨⟨k0, k1⟩, l0, l1⟩ := box2 s0; obtain ⟨⟨m0, m1⟩, n0, n1⟩ := box2 s2)
              all_goals
                have hsB' : w.heap.size + 1 + 1 + 1 ≤ wB.heap.size := by simp at hsB; omega
                have hI := ints_of (xs := out ++ [x]) hownB (by simp)
                have hlt := hI.lt
                have HBB : Hid (Below w.heap.size w wB) := ((hBx.alloc hBx.size _).drew).grown HgB.out (by simp <;> omega) (fun k e => by have := hne _ e; omega)
                have A0 := hidOf (blk (grown_set wB (w.heap.size + 1 + 1) 1 (.slice (some ⟨gB, 0, none⟩) (on + 1) cB)) s0 (by omega))
                have A1 := hidOf (blk (grown_set wB (w.heap.size + 1 + 1) 1 (.slice (some ⟨gB, 0, none⟩) (on + 1) cB)) s1 (by omega))
                have A2 := hidOf (box2_set1 s2 (.slice (some ⟨gB, 0, none⟩) (on + 1) cB))
                have HK : Hid (Ints (w.heap.size + 1 + 1 + 1) (.slice (some ⟨gB, 0, none⟩) (on + 1) cB) (out ++ [x]) (wB.setCell ⟨w.heap.size + 1 + 1, 1, none⟩ (.slice (some ⟨gB, 0, none⟩) (on + 1) cB))) := hI.kept (grown_set _ _ _ _) (fun k e e' => by cases e; have := (hlt _ e').1; omega)
                clear hI hlt hownB HgB s0 s1 s2
                go_wp2
                go_roundw
                case rel => exact ⟨k + 1, false, out ++ [x], some ⟨gB, 0, none⟩, on + 1, cB, rfl, by go_num, by omega, HN.out, HTn.out, A0.out, A1.out, A2.out, HK.out, by simp; omega, below_set HBB.out _ _ _ (by omega) (by omega), by simp; omega⟩
                case measure => simp [intOf] <;> omega
            · have HN := hidOf (HS.out.skip hkl (by rw [hx]; exact hlt2) (by rw [hx]; exact hTx))
              go_wp2
              go_quiet (fail)
              go_wp2
              go_roundw
              case rel => exact ⟨k + 1, false, out, ao, on, co, rfl, by go_num, by omega, HN.out, HTn.out, r0, r1, r2, HO, hon, below_drewN hBx nq, by simp; omega⟩
              case measure => simp [intOf] <;> omega
    · obtain rfl : k = N := by omega
      have htk : takes top xs n := ⟨by omega, hin.2, by omega, by have := HT.out; rwa [← hN, List.take_length] at this⟩
      have HA := hidOf (show accT top xs n = T ∧ accB top xs n = true from ⟨(if_pos htk).trans hTm, decide_eq_true htk⟩)
      have HEnd := hidOf (Ins.end (top := top) (by rw [hTm, hN]; exact HS.out) HW.out htk)
      obtain ⟨⟨y0, y1⟩, j0, j1⟩ := box2 r1
      cases d with
      | true =>
        have hEq : out = accX top xs n := (by have := HEnd.out; simpa using this)
        have HF : Hid (((wr.setCell ⟨w.heap.size + 1, 0, none⟩ (.int .i64 T)).setCell ⟨w.heap.size + 1, 1, none⟩ (.slice ao on co)).heap[w.heap.size + 1]? = some (wb T (.slice ao on co))) := box2_set1 (box2_set0 r1 _) _
        have HB' : Hid (Below w.heap.size w ((wr.setCell ⟨w.heap.size + 1, 0, none⟩ (.int .i64 T)).setCell ⟨w.heap.size + 1, 1, none⟩ (.slice ao on co))) := (hBx.setCell (by simp) _).setCell (by simp) _
        have HK : Hid (Ints w.heap.size (.slice ao on co) out ((wr.setCell ⟨w.heap.size + 1, 0, none⟩ (.int .i64 T)).setCell ⟨w.heap.size + 1, 1, none⟩ (.slice ao on co))) := ((HO.out.mono (by omega)).kept (grown_set _ _ _ _) (fun k e e' => by cases e; have := hne _ e'; omega)).kept (grown_set _ _ _ _) (fun k e e' => by cases e; have := hne _ e'; omega)
        clear r1 r2
        go_wp2
        have bF := HF.out
        have gB := HB'.out
        have gA := HA.out
        have gK := HK.out
        clear HF HB' HA HK
        generalize (wr.setCell ⟨w.heap.size + 1, 0, none⟩ (.int .i64 T)).setCell ⟨w.heap.size + 1, 1, none⟩ (.slice ao on co) = WF at bF gB gK ⊢
        obtain ⟨⟨z0, z1⟩, _, _⟩ := box2 bF
        exact bodyPost_ret (v := .tuple #[wv T (.slice ao on co), .bool true]) (by simp [results, Try.results44, go_sem, z0, z1]) rfl ⟨(.slice ao on co), by rw [gA.1, gA.2], by rw [← hEq]; exact gK, gB⟩
      | false =>
        go_wp2_with (at_builtin; refine wpList_append_own _ rfl _ _ 24 rfl (w.heap.size + 1 + 1 + 1) 2 i0 (.int .i64 0) 1 8 Try.underlying24 hi hz0 hz1 hz2 rfl (by decide) _ _ _ rfl (own_lit2 HO.out hon _) ⟨wr.heap.size, 0, none⟩ 1 1 [.int .i64 n] rfl rfl (cell_one _ _ _) (by simp [Value.oneCell']) (by unfold maxLen; omega) (by omega) (by simp <;> omega) ?_; intro v' w8 hown' hgrow _; obtain ⟨a8, c8, hv', hI'⟩ := ints_row (xs := out ++ [n]) hown' (by simp); have hL8 : (out ++ [n]).length = on + 1 := (by simp [hon]); rw [hL8] at hv' hI'; subst hv'; have s1 := blkA hgrow r1 (fun e => by have := hne _ e; omega); have s2 := blkA hgrow r2 (fun e => by have := hne _ e; omega); have hs8 := hgrow.size; simp only [World.size_alloc] at hs8; have HB8 : Hid (Below w.heap.size w w8) := (hBx.alloc hBx.size _).grown hgrow (by simp <;> omega) (fun k e => by have := hne _ e; omega); have HI8 := hidOf hI'; clear hown' hI' hgrow p0 p1 f0 f1 q0 q1 g0 g1 r0 r1 r2 HO y0 y1 j0 j1; obtain ⟨⟨q0, q1⟩, g0, g1⟩ := box2 s2; have r1 : (w8.setCell ⟨w.heap.size + 1 + 1, 1, none⟩ (.slice a8 (on + 1) c8)).heap[w.heap.size + 1]? = some (wb 0 (.slice none 0 0)) := blk (grown_set w8 (w.heap.size + 1 + 1) 1 (.slice a8 (on + 1) c8)) s1 (by omega); have r2 := box2_set1 s2 (.slice a8 (on + 1) c8); obtain ⟨⟨y0, y1⟩, j0, j1⟩ := box2 r1; obtain ⟨⟨o0, o1⟩, o2, o3⟩ := box2 r2)
        have hEq : out ++ [n] = accX top xs n := (by have := HEnd.out; simpa using this)
        have hne8 : ∀ j, (Value.slice a8 (on + 1) c8).ownBlock = some j → w.heap.size + 1 + 1 + 1 ≤ j := fun j e => (HI8.out.lt j e).1
        have HF : Hid ((((w8.setCell ⟨w.heap.size + 1 + 1, 1, none⟩ (.slice a8 (on + 1) c8)).setCell ⟨w.heap.size + 1, 0, none⟩ (.int .i64 T)).setCell ⟨w.heap.size + 1, 1, none⟩ (.slice a8 (on + 1) c8)).heap[w.heap.size + 1]? = some (wb T (.slice a8 (on + 1) c8))) := box2_set1 (box2_set0 r1 _) _
        have HB' : Hid (Below w.heap.size w (((w8.setCell ⟨w.heap.size + 1 + 1, 1, none⟩ (.slice a8 (on + 1) c8)).setCell ⟨w.heap.size + 1, 0, none⟩ (.int .i64 T)).setCell ⟨w.heap.size + 1, 1, none⟩ (.slice a8 (on + 1) c8))) := ((below_set HB8.out _ _ _ (by omega) (by omega)).setCell (by simp) _).setCell (by simp) _
        have HK : Hid (Ints w.heap.size (.slice a8 (on + 1) c8) (out ++ [n]) (((w8.setCell ⟨w.heap.size + 1 + 1, 1, none⟩ (.slice a8 (on + 1) c8)).setCell ⟨w.heap.size + 1, 0, none⟩ (.int .i64 T)).setCell ⟨w.heap.size + 1, 1, none⟩ (.slice a8 (on + 1) c8))) := (((HI8.out.mono (by omega)).kept (grown_set _ _ _ _) (fun k e e' => by cases e; have := hne8 _ e'; omega)).kept (grown_set _ _ _ _) (fun k e e' => by cases e; have := hne8 _ e'; omega)).kept (grown_set _ _ _ _) (fun k e e' => by cases e; have := hne8 _ e'; omega)
        clear r1 r2
        go_wp2
        have bF := HF.out
        have gB := HB'.out
        have gA := HA.out
        have gK := HK.out
        clear HF HB' HA HK
        generalize ((w8.setCell ⟨w.heap.size + 1 + 1, 1, none⟩ (.slice a8 (on + 1) c8)).setCell ⟨w.heap.size + 1, 0, none⟩ (.int .i64 T)).setCell ⟨w.heap.size + 1, 1, none⟩ (.slice a8 (on + 1) c8) = WF at bF gB gK ⊢
        obtain ⟨⟨z0, z1⟩, _, _⟩ := box2 bF
        exact bodyPost_ret (v := .tuple #[wv T (.slice a8 (on + 1) c8), .bool true]) (by simp [results, Try.results44, go_sem, z0, z1]) rfl ⟨(.slice a8 (on + 1) c8), by rw [gA.1, gA.2], by rw [← hEq]; exact gK, gB⟩
end Go.Proofs.Ythfgiabkafdbdaa.Wn
