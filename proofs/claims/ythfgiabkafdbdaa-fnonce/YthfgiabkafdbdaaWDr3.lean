
/- What DrawAcceptedAll draws. -/
import Derived.Test.YthfgiabkafdbdaaWDr
import Derived.Test.YthfgiabkafdbdaaWAll
namespace Go.Proofs.Ythfgiabkafdbdaa.Wn
open Go.RowKit

theorem empty_ints (W : World) {S : Nat} (h : W.heap.size = S) : Ints S (.slice (some ⟨S, 0, none⟩) 0 0) [] (W.alloc (.cells #[] 2)) := by
  subst h
  exact World.ownsRow_lit (base := W.heap.size) (size := 1) W #[] 0 (Nat.le_refl _) (by decide) rfl
theorem ints_lit3 {W : World} {B n : Nat} {v : Value} {xs : List Int} (h : Ints B v xs W) (hn : xs.length = n) (o : Obj) : (W.alloc o).ownsRow B 2 1 v n (xs.map (Value.int .i64)) := by
  subst hn
  exact World.ownsRow.alloc h o
theorem ints_row3 {W : World} {B n : Nat} {v : Value} {ys : List Value} {xs : List Int} (h : W.ownsRow B 2 1 v n ys) (e : ys = xs.map (Value.int .i64)) (hn : xs.length = n) : ∃ a c, v = .slice a n c ∧ Ints B (.slice a n c) xs W := by
  subst e hn
  obtain ⟨a, c, hv, _, _⟩ := Ints.row (show Ints B v xs W from h)
  subst hv
  exact ⟨a, c, rfl, h⟩

theorem ints_push {W : World} {B n : Nat} {v : Value} {l : List Int} {z : Int} (h : W.ownsRow B 2 1 v (n + 1) (l.map (Value.int .i64) ++ [.int .i64 z])) (hn : l.length = n) : ∃ a c, v = .slice a (n + 1) c ∧ Ints B (.slice a (n + 1) c) (l ++ [z]) W :=
  ints_row3 h (by simp) (by simp [hn])

set_option maxRecDepth 100000 in
set_option maxHeartbeats 4000000 in
theorem drawAll_any (a : Option Addr) (len cap : Nat) (W : World) (h : Bytes W.heap.size a len W) :
    Calls Try.prog 17 #[.slice a len cap] W fun e W' => ∃ top v xs al nl cl l, e = .returned (.tuple #[wv top v, .slice al nl cl]) ∧ Ints W.heap.size v xs W' ∧ Ints W.heap.size (.slice al nl cl) l W' ∧ l.length = nl ∧ nl ≤ 16 ∧ Below W.heap.size W W' := by
  obtain ⟨i0, hi, hz0, hz1, hz2⟩ := info_parts infoI
  have hBk : Bytes (W.alloc (wb 0 (.slice none 0 0))).heap.size a len (W.alloc (wb 0 (.slice none 0 0))) := by
    have h' := h.kept ((Below.refl W.heap.size W).alloc (Nat.le_refl _) (wb 0 (.slice none 0 0)))
    exact ⟨h'.1, fun i hi => by obtain ⟨b, off, x, e, hb, hc⟩ := h'.2 i hi; exact ⟨b, off, x, e, by simp; omega, hc⟩⟩
  have bR0 : (W.alloc (wb 0 (.slice none 0 0))).heap[W.heap.size]? = some (wb 0 (.slice none 0 0)) := heap_alloc_new _ _
  have hs0 : (W.alloc (wb 0 (.slice none 0 0))).heap.size = W.heap.size + 1 := by simp
  have hG0 : W.grownBy (W.alloc (wb 0 (.slice none 0 0))) none := World.grownBy_alloc _ _ _
  go_enter Try.func17, Try.ntmps17
  go_wp2_with fail
  generalize W.alloc (wb 0 (.slice none 0 0)) = W0 at hBk bR0 hs0 hG0 ⊢
  have HS0 := hidOf hs0
  clear hs0
  refine (l1Open_any _ _ _ _).mono ?_
  rintro e w1 ⟨rfl, hw1⟩
  have hR : Rd W0.heap.size W0.heap.size w1 := by rw [hw1]; exact hBk.rd (Nat.le_refl _) cap
  have hG1 : W0.grownBy w1 none := by rw [hw1]; exact World.grownBy_alloc _ _ _
  have hlt := hR.lt
  clear hw1 hBk h
  -- the window's own block
  have hR2 := hR.alloc (wb 0 (.slice none 0 0))
  have hG2 : W0.grownBy (w1.alloc (wb 0 (.slice none 0 0))) none := hG1.trans (World.grownBy_alloc _ _ _)
  have r5 : (w1.alloc (wb 0 (.slice none 0 0))).heap[w1.heap.size]? = some (wb 0 (.slice none 0 0)) := heap_alloc_new _ _
  have hs2 : (w1.alloc (wb 0 (.slice none 0 0))).heap.size = w1.heap.size + 1 := by simp
  have hs1 := hG1.size
  clear hR hG1
  go_wp2_with fail
  generalize w1.alloc (wb 0 (.slice none 0 0)) = w2 at *
  refine (once_any _ _ _ _ hR2 (by omega) (by omega)).mono ?_
  rintro e w3 ⟨b, rfl, hR3, g3⟩
  have hG3 : W0.grownBy w3 none := hG2.andThen g3 (fun j e => by cases e; exact .inl (Nat.le_refl _))
  have r5 := blk g3 r5 (by omega)
  have hs3 := g3.size
  clear hR2 hG2 g3
  cases b with
  | false =>
    obtain ⟨top, av, cv, xs, r5, K4, hv4⟩ : ∃ (top : Int) (av : Option Addr) (cv : Nat) (xs : List Int), w3.heap[w1.heap.size]? = some (wb top (.slice av xs.length cv)) ∧ Hid (Ints W0.heap.size (.slice av xs.length cv) xs w3) ∧ ∀ k, (Value.slice av xs.length cv).ownBlock = some k → w1.heap.size < k ∧ k < w3.heap.size := ⟨0, none, 0, [], r5, nil_ints _ _, fun k e => by cases e⟩
    obtain ⟨⟨q0, q1⟩, e0, e1⟩ := box2 r5
    have hR4 := hR3
    have hG4 := hG3
    have hs4 : w1.heap.size + 1 ≤ w3.heap.size := by omega
    clear hR3 hG3
    have x0 := cell_since q0 (one_below w3 (.cells #[] 2))
    go_wp2_with fail
    generalize w3 = w4 at *
    clear x0
    have hs5 : (w4.alloc (.cells #[] 2)).heap.size = w4.heap.size + 1 := by simp
    have r5 : (w4.alloc (.cells #[] 2)).heap[w1.heap.size]? = some (wb top (.slice av xs.length cv)) := by rw [Below.heap_alloc _ _ _ (by omega)]; exact r5
    have K5 := hidOf (K4.out.since (one_below w4 (.cells #[] 2)))
    have hR5 := hR4.alloc (.cells #[] 2)
    have hG5 : W0.grownBy (w4.alloc (.cells #[] 2)) none := hG4.trans (World.grownBy_alloc _ _ _)
    have E5 := hidOf (empty_ints w4 (S := w4.heap.size) rfl)
    have hvl : ∀ k, (Value.slice av xs.length cv).ownBlock = some k → w1.heap.size < k ∧ k < w4.heap.size := hv4
    clear K4 hR4 hG4 hv4
    generalize w4.alloc (.cells #[] 2) = w5 at *
    refine (below_any _ _ _ _ hR5 (by omega) (by omega)).mono ?_
    rintro e w6 ⟨x, hx0, hx1, rfl, hR6, g6⟩
    obtain ⟨m, rfl⟩ : ∃ m : Nat, x = (m : Int) := ⟨x.toNat, by omega⟩
    have hG6 : W0.grownBy w6 none := hG5.andThen g6 (fun j e => by cases e; exact .inl (Nat.le_refl _))
    have r5 := blk g6 r5 (by omega)
    have K6 := hidOf (K5.out.kept g6 (fun k e e' => by cases e; have := (hvl _ e').1; omega))
    have E6 := hidOf (E5.out.kept g6 (fun k e e' => by cases e; simp [Value.ownBlock] at e'; omega))
    have hs6 := g6.size
    clear hR5 hG5 g6 K5 E5
    go_wp2
    go_loopw [6, 7, 8] (fun lv nv i wr => ∃ (j : Nat) (nn : Int) (al : Option Addr) (nl cl : Nat) (l : List Int), lv = .slice al nl cl ∧ nv = .int .i64 nn ∧ i = .int .i64 (j : Int) ∧ l.length = nl ∧ nl + j ≤ 16 ∧ Hid (Ints w4.heap.size (.slice al nl cl) l wr) ∧ Hid (Ints W0.heap.size (.slice av xs.length cv) xs wr) ∧ wr.heap[w1.heap.size]? = some (wb top (.slice av xs.length cv)) ∧ Rd W0.heap.size W0.heap.size wr ∧ W0.grownBy wr none ∧ w4.heap.size + 1 ≤ wr.heap.size) (fun _ _ i _ => (intOf i).toNat)
    case atStart => exact ⟨m, _, _, 0, 0, [], rfl, rfl, rfl, rfl, by omega, E6.out, K6.out, r5, hR6, hG6, by omega⟩
    case round =>
      obtain ⟨j, nn, al, nl, cl, l, rfl, rfl, rfl, hll, hlj, HL, HK, r5, hR, hG, hsz⟩ := hrel
      clear E6 K6 hR6 hG6
      have hnl : ∀ k, (Value.slice al nl cl).ownBlock = some k → w4.heap.size ≤ k := fun k e => (HL.out.lt k e).1
      by_cases hj0 : j = 0
      · subst hj0
        have hs0 := HS0.out
        have r0 := (hG.block _ (by omega) (by simp)).trans bR0
        obtain ⟨⟨p0, p1⟩, f0, f1⟩ := box2 r0
        obtain ⟨⟨q0, q1⟩, e0, e1⟩ := box2 r5
        have hgs := (grown_set wr W.heap.size 0 (.int .i64 top)).trans (grown_set _ W.heap.size 1 (.slice av xs.length cv))
        have HF := hidOf (box2_set1 (box2_set0 r0 (.int .i64 top)) (.slice av xs.length cv))
        have AK := hidOf ((HK.out.mono (show W.heap.size ≤ W0.heap.size by omega)).kept hgs (fun k e e' => by cases e; have := (hvl _ e').1; omega))
        have AL := hidOf ((HL.out.mono (show W.heap.size ≤ w4.heap.size by omega)).kept hgs (fun k e e' => by cases e; have := hnl _ e'; omega))
        have AB := hidOf (show Below W.heap.size W ((wr.setCell ⟨W.heap.size, 0, none⟩ (.int .i64 top)).setCell ⟨W.heap.size, 1, none⟩ (.slice av xs.length cv)) from below_grown ((hG0.trans hG).andThen hgs (fun j e => by cases e; exact .inl (Nat.le_refl _))))
        clear hs0 r0 r5 hgs HL HK hR hG
        go_wp2
        have bF := HF.out
        have gK := AK.out
        have gL := AL.out
        have gB := AB.out
        clear HF AK AL AB
        generalize (wr.setCell ⟨W.heap.size, 0, none⟩ (.int .i64 top)).setCell ⟨W.heap.size, 1, none⟩ (.slice av xs.length cv) = WF at bF gK gL gB ⊢
        obtain ⟨⟨z0, z1⟩, _, _⟩ := box2 bF
        exact bodyPost_ret (v := .tuple #[wv top (.slice av xs.length cv), .slice al nl cl]) (by simp [results, Try.results17, go_sem, z0, z1]) rfl ⟨top, _, xs, al, nl, cl, l, rfl, gK, gL, hll, by omega, gB⟩
      · obtain ⟨i, rfl⟩ : ∃ i, j = i + 1 := ⟨j - 1, by omega⟩
        go_wp2_with fail
        refine (below_any _ _ _ _ hR (by omega) (by omega)).mono ?_
        rintro e w7 ⟨y, hy0, hy1, rfl, hR7, g7⟩
        have hG7 : W0.grownBy w7 none := hG.andThen g7 (fun j e => by cases e; exact .inl (Nat.le_refl _))
        have r5 := blk g7 r5 (by omega)
        have HK7 := hidOf (HK.out.kept g7 (fun k e e' => by cases e; have := (hvl _ e').1; omega))
        have HL7 := hidOf (HL.out.kept g7 (fun k e e' => by cases e; have := hnl _ e'; omega))
        have hs7 := g7.size
        clear hR hG g7 HK HL
        go_wp2_with fail
        refine (once_any _ _ _ _ hR7 (by omega) (by omega)).mono ?_
        rintro e w8 ⟨b8, rfl, hR8, g8⟩
        have hG8 : W0.grownBy w8 none := hG7.andThen g8 (fun j e => by cases e; exact .inl (Nat.le_refl _))
        have r5 := blk g8 r5 (by omega)
        have HK8 := hidOf (HK7.out.kept g8 (fun k e e' => by cases e; have := (hvl _ e').1; omega))
        have HL8 := hidOf (HL7.out.kept g8 (fun k e e' => by cases e; have := hnl _ e'; omega))
        have hs8 := g8.size
        clear hR7 hG7 g8 HK7 HL7
        cases b8
        all_goals
          go_wp2_with (at_builtin; refine wpList_append_own _ rfl _ _ 24 rfl w4.heap.size 2 i0 (.int .i64 0) 1 8 Try.underlying24 hi hz0 hz1 hz2 rfl (by decide) _ _ _ rfl (ints_lit3 HL8.out hll _) ⟨w8.heap.size, 0, none⟩ 1 1 [_] rfl rfl (cell_one1 _ _ _) (by simp [Value.oneCell']) (by unfold maxLen; omega) (by omega) (by simp <;> omega) ?_; intro v' w9 hown' hgrow _; obtain ⟨a9, c9, hv', hI'⟩ := ints_push hown' hll; subst hv'; have HI9 := hidOf hI'; have r9 := blkA hgrow r5 (fun e => by have := hnl _ e; omega); have hs9 := hgrow.size; simp only [World.size_alloc] at hs9; have HK9 := hidOf ((HK8.out.since (one_below _ _)).kept hgrow (fun k e e' => by have := hnl _ e; have := (hvl _ e').2; omega)); have HR9 := hidOf ((hR8.alloc _).kept hgrow (fun k e => by have := hnl _ e; exact ⟨by omega, by omega⟩)); have HG9 := hidOf (show W0.grownBy w9 none from (hG8.trans (World.grownBy_alloc _ _ _)).andThen hgrow (fun k e => .inl (by have := hnl _ e; omega))); clear hown' hI' hgrow r5 HK8 HL8 hR8 hG8)
          go_roundw
          case rel => exact ⟨i, _, a9, nl + 1, c9, _, rfl, rfl, by go_num, by rw [List.length_append, hll]; rfl, by omega, HI9.out, HK9.out, r9, HR9.out, HG9.out, by omega⟩
          case measure => simp [intOf] <;> omega
  | true =>
    go_wp2_with fail
    refine (window_any _ _ _ hR3).mono ?_
    rintro e w3a ⟨top, v, xs, rfl, k4, hR4a, g4⟩
    obtain ⟨av, cv, hv, _, _⟩ := k4.row
    subst hv
    have r5 := blk g4 r5 (by omega)
    have hG4a : W0.grownBy w3a none := hG3.andThen g4 (fun j e => by cases e; exact .inl (Nat.le_refl _))
    have hs3a := g4.size
    have hk4 := k4.lt
    obtain ⟨⟨p0, p1⟩, f0, f1⟩ := box2 r5
    have hgs := (grown_set w3a w1.heap.size 0 (.int .i64 top)).trans (grown_set _ w1.heap.size 1 (.slice av xs.length cv))
    have r5 := box2_set1 (box2_set0 r5 (.int .i64 top)) (.slice av xs.length cv)
    have K4 := hidOf ((k4.mono (show W0.heap.size ≤ w3.heap.size by omega)).kept hgs (fun k e e' => by cases e; have := (hk4 _ e').1; omega))
    have hR4 := hR4a.kept hgs (fun k e => by cases e; exact ⟨by omega, by omega⟩)
    have hG4 : W0.grownBy ((w3a.setCell ⟨w1.heap.size, 0, none⟩ (.int .i64 top)).setCell ⟨w1.heap.size, 1, none⟩ (.slice av xs.length cv)) none := hG4a.andThen hgs (fun k e => by cases e; exact .inl (by omega))
    have hv4 : ∀ k, (Value.slice av xs.length cv).ownBlock = some k → w1.heap.size < k ∧ k < ((w3a.setCell ⟨w1.heap.size, 0, none⟩ (.int .i64 top)).setCell ⟨w1.heap.size, 1, none⟩ (.slice av xs.length cv)).heap.size := fun k e => ⟨by have := (hk4 _ e).1; omega, by have := (hk4 _ e).2; simpa using this⟩
    have hs4 : w1.heap.size + 1 ≤ ((w3a.setCell ⟨w1.heap.size, 0, none⟩ (.int .i64 top)).setCell ⟨w1.heap.size, 1, none⟩ (.slice av xs.length cv)).heap.size := by simp; omega
    obtain ⟨⟨q0, q1⟩, e0, e1⟩ := box2 r5
    clear hgs k4 hk4 hR4a hG4a hR3 hG3 g4
    have x0 := cell_since q0 (one_below ((w3a.setCell ⟨w1.heap.size, 0, none⟩ (.int .i64 top)).setCell ⟨w1.heap.size, 1, none⟩ (.slice av xs.length cv)) (.cells #[] 2))
    have hsq : ((w3a.setCell ⟨w1.heap.size, 0, none⟩ (.int .i64 top)).setCell ⟨w1.heap.size, 1, none⟩ (.slice av xs.length cv)).heap.size = w3a.heap.size := by simp
    have HSq := hidOf hsq
    clear hsq
    go_wp2_with fail
    generalize (w3a.setCell ⟨w1.heap.size, 0, none⟩ (.int .i64 top)).setCell ⟨w1.heap.size, 1, none⟩ (.slice av xs.length cv) = w4 at *
    rw [← HSq.out]
    clear x0
    have hs5 : (w4.alloc (.cells #[] 2)).heap.size = w4.heap.size + 1 := by simp
    have r5 : (w4.alloc (.cells #[] 2)).heap[w1.heap.size]? = some (wb top (.slice av xs.length cv)) := by rw [Below.heap_alloc _ _ _ (by omega)]; exact r5
    have K5 := hidOf (K4.out.since (one_below w4 (.cells #[] 2)))
    have hR5 := hR4.alloc (.cells #[] 2)
    have hG5 : W0.grownBy (w4.alloc (.cells #[] 2)) none := hG4.trans (World.grownBy_alloc _ _ _)
    have E5 := hidOf (empty_ints w4 (S := w4.heap.size) rfl)
    have hvl : ∀ k, (Value.slice av xs.length cv).ownBlock = some k → w1.heap.size < k ∧ k < w4.heap.size := hv4
    clear K4 hR4 hG4 hv4
    generalize w4.alloc (.cells #[] 2) = w5 at *
    refine (below_any _ _ _ _ hR5 (by omega) (by omega)).mono ?_
    rintro e w6 ⟨x, hx0, hx1, rfl, hR6, g6⟩
    obtain ⟨m, rfl⟩ : ∃ m : Nat, x = (m : Int) := ⟨x.toNat, by omega⟩
    have hG6 : W0.grownBy w6 none := hG5.andThen g6 (fun j e => by cases e; exact .inl (Nat.le_refl _))
    have r5 := blk g6 r5 (by omega)
    have K6 := hidOf (K5.out.kept g6 (fun k e e' => by cases e; have := (hvl _ e').1; omega))
    have E6 := hidOf (E5.out.kept g6 (fun k e e' => by cases e; simp [Value.ownBlock] at e'; omega))
    have hs6 := g6.size
    clear hR5 hG5 g6 K5 E5
    go_wp2
    go_loopw [6, 7, 8] (fun lv nv i wr => ∃ (j : Nat) (nn : Int) (al : Option Addr) (nl cl : Nat) (l : List Int), lv = .slice al nl cl ∧ nv = .int .i64 nn ∧ i = .int .i64 (j : Int) ∧ l.length = nl ∧ nl + j ≤ 16 ∧ Hid (Ints w4.heap.size (.slice al nl cl) l wr) ∧ Hid (Ints W0.heap.size (.slice av xs.length cv) xs wr) ∧ wr.heap[w1.heap.size]? = some (wb top (.slice av xs.length cv)) ∧ Rd W0.heap.size W0.heap.size wr ∧ W0.grownBy wr none ∧ w4.heap.size + 1 ≤ wr.heap.size) (fun _ _ i _ => (intOf i).toNat)
    case atStart => exact ⟨m, _, _, 0, 0, [], rfl, rfl, rfl, rfl, by omega, E6.out, K6.out, r5, hR6, hG6, by omega⟩
    case round =>
      obtain ⟨j, nn, al, nl, cl, l, rfl, rfl, rfl, hll, hlj, HL, HK, r5, hR, hG, hsz⟩ := hrel
      clear E6 K6 hR6 hG6
      have hnl : ∀ k, (Value.slice al nl cl).ownBlock = some k → w4.heap.size ≤ k := fun k e => (HL.out.lt k e).1
      by_cases hj0 : j = 0
      · subst hj0
        have hs0 := HS0.out
        have r0 := (hG.block _ (by omega) (by simp)).trans bR0
        obtain ⟨⟨p0, p1⟩, f0, f1⟩ := box2 r0
        obtain ⟨⟨q0, q1⟩, e0, e1⟩ := box2 r5
        have hgs := (grown_set wr W.heap.size 0 (.int .i64 top)).trans (grown_set _ W.heap.size 1 (.slice av xs.length cv))
        have HF := hidOf (box2_set1 (box2_set0 r0 (.int .i64 top)) (.slice av xs.length cv))
        have AK := hidOf ((HK.out.mono (show W.heap.size ≤ W0.heap.size by omega)).kept hgs (fun k e e' => by cases e; have := (hvl _ e').1; omega))
        have AL := hidOf ((HL.out.mono (show W.heap.size ≤ w4.heap.size by omega)).kept hgs (fun k e e' => by cases e; have := hnl _ e'; omega))
        have AB := hidOf (show Below W.heap.size W ((wr.setCell ⟨W.heap.size, 0, none⟩ (.int .i64 top)).setCell ⟨W.heap.size, 1, none⟩ (.slice av xs.length cv)) from below_grown ((hG0.trans hG).andThen hgs (fun j e => by cases e; exact .inl (Nat.le_refl _))))
        clear hs0 r0 r5 hgs HL HK hR hG
        go_wp2
        have bF := HF.out
        have gK := AK.out
        have gL := AL.out
        have gB := AB.out
        clear HF AK AL AB
        generalize (wr.setCell ⟨W.heap.size, 0, none⟩ (.int .i64 top)).setCell ⟨W.heap.size, 1, none⟩ (.slice av xs.length cv) = WF at bF gK gL gB ⊢
        obtain ⟨⟨z0, z1⟩, _, _⟩ := box2 bF
        exact bodyPost_ret (v := .tuple #[wv top (.slice av xs.length cv), .slice al nl cl]) (by simp [results, Try.results17, go_sem, z0, z1]) rfl ⟨top, _, xs, al, nl, cl, l, rfl, gK, gL, hll, by omega, gB⟩
      · obtain ⟨i, rfl⟩ : ∃ i, j = i + 1 := ⟨j - 1, by omega⟩
        go_wp2_with fail
        refine (below_any _ _ _ _ hR (by omega) (by omega)).mono ?_
        rintro e w7 ⟨y, hy0, hy1, rfl, hR7, g7⟩
        have hG7 : W0.grownBy w7 none := hG.andThen g7 (fun j e => by cases e; exact .inl (Nat.le_refl _))
        have r5 := blk g7 r5 (by omega)
        have HK7 := hidOf (HK.out.kept g7 (fun k e e' => by cases e; have := (hvl _ e').1; omega))
        have HL7 := hidOf (HL.out.kept g7 (fun k e e' => by cases e; have := hnl _ e'; omega))
        have hs7 := g7.size
        clear hR hG g7 HK HL
        go_wp2_with fail
        refine (once_any _ _ _ _ hR7 (by omega) (by omega)).mono ?_
        rintro e w8 ⟨b8, rfl, hR8, g8⟩
        have hG8 : W0.grownBy w8 none := hG7.andThen g8 (fun j e => by cases e; exact .inl (Nat.le_refl _))
        have r5 := blk g8 r5 (by omega)
        have HK8 := hidOf (HK7.out.kept g8 (fun k e e' => by cases e; have := (hvl _ e').1; omega))
        have HL8 := hidOf (HL7.out.kept g8 (fun k e e' => by cases e; have := hnl _ e'; omega))
        have hs8 := g8.size
        clear hR7 hG7 g8 HK7 HL7
        cases b8
        all_goals
          go_wp2_with (at_builtin; refine wpList_append_own _ rfl _ _ 24 rfl w4.heap.size 2 i0 (.int .i64 0) 1 8 Try.underlying24 hi hz0 hz1 hz2 rfl (by decide) _ _ _ rfl (ints_lit3 HL8.out hll _) ⟨w8.heap.size, 0, none⟩ 1 1 [_] rfl rfl (cell_one1 _ _ _) (by simp [Value.oneCell']) (by unfold maxLen; omega) (by omega) (by simp <;> omega) ?_; intro v' w9 hown' hgrow _; obtain ⟨a9, c9, hv', hI'⟩ := ints_push hown' hll; subst hv'; have HI9 := hidOf hI'; have r9 := blkA hgrow r5 (fun e => by have := hnl _ e; omega); have hs9 := hgrow.size; simp only [World.size_alloc] at hs9; have HK9 := hidOf ((HK8.out.since (one_below _ _)).kept hgrow (fun k e e' => by have := hnl _ e; have := (hvl _ e').2; omega)); have HR9 := hidOf ((hR8.alloc _).kept hgrow (fun k e => by have := hnl _ e; exact ⟨by omega, by omega⟩)); have HG9 := hidOf (show W0.grownBy w9 none from (hG8.trans (World.grownBy_alloc _ _ _)).andThen hgrow (fun k e => .inl (by have := hnl _ e; omega))); clear hown' hI' hgrow r5 HK8 HL8 hR8 hG8)
          go_roundw
          case rel => exact ⟨i, _, a9, nl + 1, c9, _, rfl, rfl, by go_num, by rw [List.length_append, hll]; rfl, by omega, HI9.out, HK9.out, r9, HR9.out, HG9.out, by omega⟩
          case measure => simp [intOf] <;> omega
end Go.Proofs.Ythfgiabkafdbdaa.Wn
