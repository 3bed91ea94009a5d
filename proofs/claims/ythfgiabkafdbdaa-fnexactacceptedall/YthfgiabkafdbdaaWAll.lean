
/- AcceptedAll of the program: one number after another. -/
import Derived.Test.YthfgiabkafdbdaaWin10
import Derived.Test.YthfgiabkafdbdaaOwnB
namespace Go.Proofs.Ythfgiabkafdbdaa.Wn
open Go.RowKit

/-- What a right window is behind numbers, and which of them it took. -/
def allT : Int → List Int → List Int → Int
  | top, _, [] => top
  | top, xs, n :: l => allT (accT top xs n) (accX top xs n) l
def allX : Int → List Int → List Int → List Int
  | _, xs, [] => xs
  | top, xs, n :: l => allX (accT top xs n) (accX top xs n) l
def allB : Int → List Int → List Int → List Bool
  | _, _, [] => []
  | top, xs, n :: l => accB top xs n :: allB (accT top xs n) (accX top xs n) l
theorem allT_snoc (n : Int) : ∀ (l : List Int) (top : Int) (xs : List Int), allT top xs (l ++ [n]) = accT (allT top xs l) (allX top xs l) n
  | [], _, _ => rfl
  | _ :: l, _, _ => allT_snoc n l _ _
theorem allX_snoc (n : Int) : ∀ (l : List Int) (top : Int) (xs : List Int), allX top xs (l ++ [n]) = accX (allT top xs l) (allX top xs l) n
  | [], _, _ => rfl
  | _ :: l, _, _ => allX_snoc n l _ _
theorem allB_snoc (n : Int) : ∀ (l : List Int) (top : Int) (xs : List Int), allB top xs (l ++ [n]) = allB top xs l ++ [accB (allT top xs l) (allX top xs l) n]
  | [], _, _ => rfl
  | m :: l, top, xs => by
    show accB top xs m :: allB _ _ (l ++ [n]) = _
    rw [allB_snoc n l]
    rfl
theorem allB_len : ∀ (l : List Int) (top : Int) (xs : List Int), (allB top xs l).length = l.length
  | [], _, _ => rfl
  | _ :: l, top, xs => by show (allB _ _ l).length + 1 = _; rw [allB_len l]; rfl
theorem WinOk.alls : ∀ (l : List Int) {top : Int} {xs : List Int}, WinOk top xs → WinOk (allT top xs l) (allX top xs l)
  | [], _, _, h => h
  | n :: l, _, _, h => WinOk.alls l (h.acc (n := n))

abbrev allOk (top : Int) (xs l : List Int) : Prop := windowB top xs = true ∧ l.length ≤ 200
def endT (top : Int) (xs l : List Int) : Int := if allOk top xs l then allT top xs l else 0
def endX (top : Int) (xs l : List Int) : List Int := if allOk top xs l then allX top xs l else []
def endB (top : Int) (xs l : List Int) : List Bool := if allOk top xs l then allB top xs l else []
theorem endX_len (top : Int) (xs l : List Int) : (endX top xs l).length ≤ 32 := by
  unfold endX
  by_cases h : allOk top xs l
  · rw [if_pos h]; exact (WinOk.alls l (windowB_ok h.1)).len
  · rw [if_neg h]; simp
theorem endB_len (top : Int) (xs l : List Int) : (endB top xs l).length ≤ 200 := by
  unfold endB
  by_cases h : allOk top xs l
  · rw [if_pos h, allB_len]; exact h.2
  · rw [if_neg h]; simp
theorem infoB : (Try.prog.info? 4).map (fun i => (i.zero, i.size, i.bytes)) = some (some (.bool false), 1, 1) := by kernel_rfl
theorem bools_row {W : World} {B n : Nat} {v : Value} {ys : List Value} {xs : List Bool} (h : W.ownsRow B 4 1 v n ys) (e : ys = xs.map Value.bool) : ∃ a c, v = .slice a xs.length c ∧ Bools B (.slice a xs.length c) xs W := by
  subst e
  have hN : xs.length = n := by have := h.1; simpa using this
  subst hN
  have h' : Bools B v xs W := h
  rcases h'.form with ⟨rfl, rfl⟩ | ⟨g, cap, rfl, _⟩
  · exact ⟨_, _, rfl, h⟩
  · exact ⟨_, _, rfl, h⟩
theorem bools_lit {W : World} {B n : Nat} {v : Value} {xs : List Bool} (h : Bools B v xs W) (hn : xs.length = n) (o : Obj) : (W.alloc o).ownsRow B 4 1 v n (xs.map Value.bool) := by
  subst hn
  exact World.ownsRow.alloc h o
theorem Bools.since {B : Nat} {v : Value} {xs : List Bool} {W W' : World} (h : Bools B v xs W) (hb : Below W.heap.size W W') : Bools B v xs W' := h.below hb (fun k e => (h.lt k e).2)
theorem nil_bools (B : Nat) (w : World) : Bools B (.slice none 0 0) [] w := ⟨by simp, .inl ⟨rfl, rfl⟩⟩
theorem cell_one1 (W : World) (t : TypeId) (x : Value) : ∀ j u, [x][j]? = some u → (W.alloc (.cells #[x] t)).cell? ((⟨W.heap.size, 0, none⟩ : Addr).add j) = some u := by
  intro j u hu
  cases j with
  | zero => simp at hu; subst hu; simp [Addr.add]
  | succ j => simp at hu

set_option maxRecDepth 100000 in
set_option maxHeartbeats 4000000 in
theorem acceptedAll_any {B C : Nat} {v u : Value} {xs l : List Int} {w : World} (top : Int) (h : Ints B v xs w) (hl : Ints C u l w) :
    Calls Try.prog 18 #[wv top v, u] w fun e w' => ∃ a c a' c', e = .returned (.tuple #[wv (endT top xs l) (.slice a (endX top xs l).length c), .slice a' (endB top xs l).length c']) ∧ Ints w.heap.size (.slice a (endX top xs l).length c) (endX top xs l) w' ∧ Bools w.heap.size (.slice a' (endB top xs l).length c') (endB top xs l) w' ∧ (∀ k, (Value.slice a (endX top xs l).length c).ownBlock = some k → (Value.slice a' (endB top xs l).length c').ownBlock ≠ some k) ∧ Below w.heap.size w w' := by
  obtain ⟨i0, hi, hz0, hz1, hz2⟩ := info_parts infoB
  obtain ⟨a, c, hv, hm, _⟩ := h.row
  subst hv
  obtain ⟨al, cl, hu, hml, hrowl⟩ := hl.row
  subst hu
  have HRL := hidOf hrowl
  have hB0 := two_below w (wb top (.slice a xs.length c)) (wb 0 (.slice none 0 0))
  obtain ⟨c0, c1⟩ := cellW w top (.slice a xs.length c)
  have d0 := cell_since c0 (one_below _ (wb 0 (.slice none 0 0)))
  have d1 := cell_since c1 (one_below _ (wb 0 (.slice none 0 0)))
  have t1 : ((w.alloc (wb top (.slice a xs.length c))).alloc (wb 0 (.slice none 0 0))).heap[w.heap.size + 1]? = some (wb 0 (.slice none 0 0)) := by
    have := heap_alloc_new (w.alloc (wb top (.slice a xs.length c))) (wb 0 (.slice none 0 0))
    simpa using this
  have hs0 : ((w.alloc (wb top (.slice a xs.length c))).alloc (wb 0 (.slice none 0 0))).heap.size = w.heap.size + 1 + 1 := by simp
  have HI := hidOf (h.since hB0)
  clear h hl c0 c1 hrowl
  unfold maxLen at hml
  go_enter Try.func18, Try.ntmps18
  go_wp2_with fail
  generalize (w.alloc (wb top (.slice a xs.length c))).alloc (wb 0 (.slice none 0 0)) = w0 at *
  refine (windowOk_any top HI.out).mono ?_
  rintro e w2 ⟨rfl, b2⟩
  have hB2 := more hB0 b2
  have s1 := (b2.block (w.heap.size + 1) (by omega)).trans t1
  have e0 := cell_since d0 b2
  have e1 := cell_since d1 b2
  have I2 := hidOf (HI.out.since b2)
  have hs2 := b2.size
  clear HI d0 d1 t1 hB0 b2
  obtain ⟨⟨y0, y1⟩, j0, j1⟩ := box2 s1
  by_cases hall : allOk top xs l
  case neg =>
    have HA := hidOf (show endT top xs l = 0 ∧ endX top xs l = [] ∧ endB top xs l = [] from ⟨if_neg hall, if_neg hall, if_neg hall⟩)
    have HF : Hid (((w2.setCell ⟨w.heap.size + 1, 0, none⟩ (.int .i64 0)).setCell ⟨w.heap.size + 1, 1, none⟩ (.slice none 0 0)).heap[w.heap.size + 1]? = some (wb 0 (.slice none 0 0))) := box2_set1 (box2_set0 s1 _) _
    have HB' : Hid (Below w.heap.size w ((w2.setCell ⟨w.heap.size + 1, 0, none⟩ (.int .i64 0)).setCell ⟨w.heap.size + 1, 1, none⟩ (.slice none 0 0))) := (hB2.setCell (by simp) _).setCell (by simp) _
    clear s1
    cases hok : windowB top xs with
    | false =>
      go_wp2
      have bF := HF.out
      have gB := HB'.out
      obtain ⟨g1, g2, g3⟩ := HA.out
      clear HF HB' HA
      generalize (w2.setCell ⟨w.heap.size + 1, 0, none⟩ (.int .i64 0)).setCell ⟨w.heap.size + 1, 1, none⟩ (.slice none 0 0) = WF at bF gB ⊢
      obtain ⟨⟨z0, z1⟩, _, _⟩ := box2 bF
      exact bodyPost_ret (v := .tuple #[wv 0 (.slice none 0 0), .slice none 0 0]) (by simp [results, Try.results18, go_sem, z0, z1]) rfl ⟨none, 0, none, 0, by rw [g1, g2, g3]; rfl, by rw [g2]; exact ⟨by simp, .inl ⟨rfl, rfl⟩⟩, by rw [g3]; exact nil_bools _ _, (fun k e => by cases e), gB⟩
    | true =>
      have hlong : 200 < l.length := by
        apply Classical.byContradiction
        intro hc
        exact hall ⟨hok, by omega⟩
      go_wp2
      have bF := HF.out
      have gB := HB'.out
      obtain ⟨g1, g2, g3⟩ := HA.out
      clear HF HB' HA
      generalize (w2.setCell ⟨w.heap.size + 1, 0, none⟩ (.int .i64 0)).setCell ⟨w.heap.size + 1, 1, none⟩ (.slice none 0 0) = WF at bF gB ⊢
      obtain ⟨⟨z0, z1⟩, _, _⟩ := box2 bF
      exact bodyPost_ret (v := .tuple #[wv 0 (.slice none 0 0), .slice none 0 0]) (by simp [results, Try.results18, go_sem, z0, z1]) rfl ⟨none, 0, none, 0, by rw [g1, g2, g3]; rfl, by rw [g2]; exact ⟨by simp, .inl ⟨rfl, rfl⟩⟩, by rw [g3]; exact nil_bools _ _, (fun k e => by cases e), gB⟩
  obtain ⟨hok, hl200⟩ := hall
  have hw := windowB_ok hok
  have HW := hidOf hw
  have HA := hidOf (show endT top xs l = allT top xs l ∧ endX top xs l = allX top xs l ∧ endB top xs l = allB top xs l from ⟨if_pos ⟨hok, hl200⟩, if_pos ⟨hok, hl200⟩, if_pos ⟨hok, hl200⟩⟩)
  clear hw
  rw [hok]
  go_wp2_with fail
  refine (bitsOf_any top I2.out HW.out).mono ?_
  rintro e w3 ⟨b, rfl, hb3, b3⟩
  have s3 := (b3.block (w.heap.size + 1) (by omega)).trans s1
  have hB3 := more hB2 b3
  have hs3 := b3.size
  have HBt := hidOf hb3
  have u3 : (w3.alloc (bb top b)).heap[w3.heap.size]? = some (bb top b) := heap_alloc_new _ _
  have s4 : (w3.alloc (bb top b)).heap[w.heap.size + 1]? = some (wb 0 (.slice none 0 0)) := by rw [Below.heap_alloc _ _ _ (by omega)]; exact s3
  have hB4 : Below w.heap.size w (w3.alloc (bb top b)) := hB3.alloc hB3.size _
  have hs4 : (w3.alloc (bb top b)).heap.size = w3.heap.size + 1 := by simp
  clear hb3 b3 s1 s3 e0 e1 I2 y0 y1 j0 j1
  go_wp2
  generalize w3.alloc (bb top b) = w4 at *
  generalize hN : l.length = N at *
  go_loopw [7, 23] (fun fv i wr => ∃ (k tq : Nat) (af : Option Addr) (cf : Nat), fv = .slice af k cf ∧ i = .int .i64 (k : Int) ∧ k ≤ N ∧ Hid (HasBits tq (allT top xs (l.take k)) (allX top xs (l.take k))) ∧ Hid (Bools (w3.heap.size + 1) (.slice af k cf) (allB top xs (l.take k)) wr) ∧ wr.heap[w.heap.size + 1]? = some (wb 0 (.slice none 0 0)) ∧ wr.heap[w3.heap.size]? = some (bb (allT top xs (l.take k)) tq) ∧ Below w.heap.size w wr ∧ w3.heap.size + 1 ≤ wr.heap.size) (fun _ i _ => N - (intOf i).toNat)
  case atStart => exact ⟨0, b, none, 0, rfl, rfl, Nat.zero_le _, HBt.out, nil_bools _ _, s4, u3, hB4, by omega⟩
  case round =>
    obtain ⟨k, tq, af, cf, rfl, rfl, hkN, HBq, HBo, r1, r3, hB, hsz⟩ := hrel
    clear s4 u3 hB4 HBt
    have HWk := hidOf (WinOk.alls (l.take k) HW.out)
    have hlk : (allB top xs (l.take k)).length = k := by rw [allB_len, List.length_take]; omega
    have hneB : ∀ j, (Value.slice af k cf).ownBlock = some j → w3.heap.size + 1 ≤ j := fun j e => (HBo.out.lt j e).1
    by_cases hlt : k < N
    · obtain ⟨g, ha, hg, hseg⟩ : ∃ g, al = some ⟨g, 0, none⟩ ∧ g < w.heap.size ∧ ISeg g 0 l w := by
        rcases HRL.out with e | e
        · rw [e] at hN; simp at hN; omega
        · exact e
      subst ha
      have a1 := hseg k (by omega)
      simp only [Nat.zero_add] at a1
      have e1 := (hB.cell (p := ⟨g, k, none⟩) hg).trans a1
      have HTk := hidOf (show l.take (k + 1) = l.take k ++ [l[k]] from List.take_succ_eq_append_getElem (by omega))
      clear hseg a1
      obtain ⟨n, hn⟩ : ∃ n, l[k] = n := ⟨_, rfl⟩
      rw [hn] at e1 HTk
      go_wp2_with fail
      refine (accept_any _ n r3 HBq.out HWk.out).mono ?_
      rintro e w5 ⟨rfl, u5, g5⟩
      have s5 := blk g5 r1 (by omega)
      have hB5 : Below w.heap.size w w5 := hB.grown g5 hB.size (fun k e => by cases e; omega)
      have hs5 := g5.size
      have HB5 := hidOf (HBo.out.kept g5 (fun j e e' => by cases e; have := hneB _ e'; omega))
      obtain ⟨hac1, hac2⟩ := HBq.out.acc (n := n) HWk.out
      have HN1 := hidOf (show accTop (allT top xs (l.take k)) n = allT top xs (l.take (k + 1)) by rw [hac1, HTk.out, allT_snoc])
      have HN2 := hidOf (show HasBits (accBits tq (allT top xs (l.take k)) n) (allT top xs (l.take (k + 1))) (allX top xs (l.take (k + 1))) by rw [← HN1.out, HTk.out, allX_snoc]; exact hac2)
      have HN3 := hidOf (show allB top xs (l.take (k + 1)) = allB top xs (l.take k) ++ [accB (allT top xs (l.take k)) (allX top xs (l.take k)) n] by rw [HTk.out, allB_snoc])
      have u5 := u5
      rw [HN1.out] at u5
      clear g5 hac1 hac2 r1 r3 hB HBo HBq
      generalize accB (allT top xs (l.take k)) (allX top xs (l.take k)) n = fr at *
      generalize accBits tq (allT top xs (l.take k)) n = tq' at *
      go_wp2_with (at_builtin; refine wpList_append_own _ rfl _ _ 36 rfl (w3.heap.size + 1) 4 i0 (.bool false) 1 1 Try.underlying36 hi hz0 hz1 hz2 rfl (by decide) _ _ _ rfl (bools_lit HB5.out hlk _) ⟨w5.heap.size, 0, none⟩ 1 1 [.bool fr] rfl rfl (cell_one1 _ _ _) (by simp [Value.oneCell']) (by unfold maxLen; omega) (by omega) (by simp <;> omega) ?_; intro v' w8 hown' hgrow _; obtain ⟨a8, c8, hv', hI'⟩ := bools_row (xs := allB top xs (l.take k) ++ [fr]) hown' (by simp); have hL8 : (allB top xs (l.take k) ++ [fr]).length = k + 1 := (by simp [hlk]); rw [hL8] at hv' hI'; subst hv'; have s8 := blkA hgrow s5 (fun e => by have := hneB _ e; omega); have u8 := blkA hgrow u5 (fun e => by have := hneB _ e; omega); have hs8 := hgrow.size; simp only [World.size_alloc] at hs8; have HB8 : Hid (Below w.heap.size w w8) := (hB5.alloc hB5.size _).grown hgrow (by simp <;> omega) (fun k e => by have := hneB _ e; omega); have HI8 := hidOf hI'; clear hown' hI' hgrow s5 u5 hB5 HB5)
      go_roundw
      case rel => exact ⟨k + 1, tq', a8, c8, by go_num, by go_num, by omega, HN2.out, (by show Bools _ _ _ _; rw [HN3.out]; exact HI8.out), s8, u8, HB8.out, by omega⟩
      case measure => simp [intOf] <;> omega
    · obtain rfl : k = N := by omega
      have htk : l.take k = l := List.take_of_length_le (by omega)
      rw [htk] at HBq HBo r3 HWk
      have hrk := HWk.out.range
      have hbl := HBq.out.1
      have HTl := hidOf (winTo_all HBq.out HWk.out.up (fun x hx => (HWk.out.all x hx).2))
      obtain ⟨⟨q0, q1⟩, _, _⟩ := box2 r3
      have hlk' : (allB top xs l).length = k := by rw [allB_len]; omega
      clear htk hlk r3
      go_wp2_with fail
      refine (windowM_any _ tq hbl hrk).mono ?_
      rintro e w6 ⟨v6, rfl, k6, b6⟩
      rw [HTl.out] at k6
      obtain ⟨a6, c6, hv6, _, _⟩ := k6.row
      subst hv6
      have s6 := (b6.block (w.heap.size + 1) (by omega)).trans r1
      have hB6 := more hB b6
      have hs6 := b6.size
      have HB6 := hidOf (HBo.out.since b6)
      obtain ⟨⟨y0, y1⟩, j0, j1⟩ := box2 s6
      have hlt6 := k6.lt
      have HX6 := hidOf (show ∀ j, (Value.slice af k cf).ownBlock = some j → j < wr.heap.size from fun j e => (HBo.out.lt j e).2)
      obtain ⟨g1, g2, g3⟩ := HA.out
      have HF : Hid (((w6.setCell ⟨w.heap.size + 1, 0, none⟩ (.int .i64 (allT top xs l))).setCell ⟨w.heap.size + 1, 1, none⟩ (.slice a6 (allX top xs l).length c6)).heap[w.heap.size + 1]? = some (wb (allT top xs l) (.slice a6 (allX top xs l).length c6))) := box2_set1 (box2_set0 s6 _) _
      have HB' : Hid (Below w.heap.size w ((w6.setCell ⟨w.heap.size + 1, 0, none⟩ (.int .i64 (allT top xs l))).setCell ⟨w.heap.size + 1, 1, none⟩ (.slice a6 (allX top xs l).length c6))) := (hB6.setCell (by simp) _).setCell (by simp) _
      have HK : Hid (Ints w.heap.size (.slice a6 (allX top xs l).length c6) (allX top xs l) ((w6.setCell ⟨w.heap.size + 1, 0, none⟩ (.int .i64 (allT top xs l))).setCell ⟨w.heap.size + 1, 1, none⟩ (.slice a6 (allX top xs l).length c6))) :=
        ((k6.mono (by omega)).kept (grown_set _ _ _ _) (fun k e e' => by cases e; have := (hlt6 _ e').1; omega)).kept (grown_set _ _ _ _) (fun k e e' => by cases e; have := (hlt6 _ e').1; omega)
      have HQ : Hid (Bools w.heap.size (.slice af k cf) (allB top xs l) ((w6.setCell ⟨w.heap.size + 1, 0, none⟩ (.int .i64 (allT top xs l))).setCell ⟨w.heap.size + 1, 1, none⟩ (.slice a6 (allX top xs l).length c6))) :=
        ((HB6.out.mono (by omega)).kept (grown_set _ _ _ _) (fun k e e' => by cases e; have := hneB _ e'; omega)).kept (grown_set _ _ _ _) (fun k e e' => by cases e; have := hneB _ e'; omega)
      have HD : Hid (∀ j, (Value.slice a6 (allX top xs l).length c6).ownBlock = some j → (Value.slice af k cf).ownBlock ≠ some j) := fun j e e' => by have := (hlt6 _ e).1; have := HX6.out _ e'; omega
      clear s6 r1 k6 hlt6 b6 HB6
      go_wp2
      have bF := HF.out
      have gB := HB'.out
      have gK := HK.out
      have gQ := HQ.out
      have gD := HD.out
      clear HF HB' HK HQ HA HD
      generalize (w6.setCell ⟨w.heap.size + 1, 0, none⟩ (.int .i64 (allT top xs l))).setCell ⟨w.heap.size + 1, 1, none⟩ (.slice a6 (allX top xs l).length c6) = WF at bF gB gK gQ ⊢
      obtain ⟨⟨z0, z1⟩, _, _⟩ := box2 bF
      rw [g1, g2, g3, hlk']
      exact bodyPost_ret (v := .tuple #[wv (allT top xs l) (.slice a6 (allX top xs l).length c6), .slice af k cf]) (by simp [results, Try.results18, go_sem, z0, z1]) rfl ⟨a6, c6, af, cf, rfl, gK, gQ, gD, gB⟩
end Go.Proofs.Ythfgiabkafdbdaa.Wn
