/- l3Join of the model. -/
import Derived.Test.YtgddobdpibnkeaaPart5
namespace Go.Proofs.Ytgddobdpibnkeaa
open Go.RowKit

theorem seatsOwn {W : World} {B n : Nat} {v : Value} {xs : List (Int × Int)} (h : Seats B v xs W) (hn : xs.length = n) (o : Obj) : (W.alloc o).ownsRow B 88 2 v n (kcells xs) := by
  subst hn
  exact World.ownsRow.alloc h o
theorem kcells_snoc (ls : List (Int × Int)) (x1 x2 : Int) : kcells ls ++ [Value.int .i64 x1, Value.int .i64 x2] = kcells (ls ++ [(x1, x2)]) := by rw [kcells_append]; rfl
theorem seatCellAt {C g n c k : Nat} {ss : List (Int × Int)} {W : World} (h : Seats C (.slice (some ⟨g, 0, none⟩) n c) ss W) (hk : k < ss.length) : W.cell? ⟨g, k * 2, none⟩ = some (.int .i64 ss[k].1) ∧ W.cell? ⟨g, k * 2 + 1, none⟩ = some (.int .i64 ss[k].2) := by
  obtain ⟨a', c', hv', _, hrow⟩ := h.row
  injection hv' with e1 e2 e3
  subst e1
  rcases hrow with e | ⟨g', e, _, hseg⟩
  · rw [e] at hk; simp at hk
  · cases e
    have := hseg k hk
    simpa only [Nat.zero_add] using this
/-- What l3Join answers of the world: all is in new memory, but for the versions, which are written over. -/
theorem drop_at {ss : List (Int × Int)} {k : Nat} {p : Int × Int} (hk : k < ss.length) (h : ss[k] = p) : ss.drop k = p :: ss.drop (k + 1) := by rw [← h]; exact List.drop_eq_getElem_cons hk
/-- What is still to be written of the seats. -/
def restIn (m l : Int) (db : Bool) (t : List (Int × Int)) : List (Int × Int) := if db = true then t else seatIn m l t
theorem restIn_t {m l : Int} {ss ls : List (Int × Int)} {k : Nat} {p : Int × Int} (hk : k < ss.length) (h : ss[k] = p) (H : seatIn m l ss = ls ++ restIn m l true (ss.drop k)) : seatIn m l ss = (ls ++ [p]) ++ restIn m l true (ss.drop (k + 1)) := by
  rw [H, drop_at hk h]; simp [restIn]
theorem restIn_f {m l : Int} {ss ls : List (Int × Int)} {k : Nat} {p : Int × Int} (hk : k < ss.length) (h : ss[k] = p) (hg : ¬ m < p.1) (H : seatIn m l ss = ls ++ restIn m l false (ss.drop k)) : seatIn m l ss = (ls ++ [p]) ++ restIn m l false (ss.drop (k + 1)) := by
  rw [H, drop_at hk h]; simp [restIn, seatIn, hg]
theorem restIn_g {m l : Int} {ss ls : List (Int × Int)} {k : Nat} {p : Int × Int} (hk : k < ss.length) (h : ss[k] = p) (hg : m < p.1) (H : seatIn m l ss = ls ++ restIn m l false (ss.drop k)) : seatIn m l ss = ((ls ++ [(m, l)]) ++ [p]) ++ restIn m l true (ss.drop (k + 1)) := by
  rw [H, drop_at hk h]; simp [restIn, seatIn, hg]
theorem restIn_et {m l : Int} {ss ls : List (Int × Int)} {k : Nat} (hk : ss.length ≤ k) (H : seatIn m l ss = ls ++ restIn m l true (ss.drop k)) : seatIn m l ss = ls := by
  rw [H, List.drop_eq_nil_of_le hk]; simp [restIn]
theorem restIn_ef {m l : Int} {ss ls : List (Int × Int)} {k : Nat} (hk : ss.length ≤ k) (H : seatIn m l ss = ls ++ restIn m l false (ss.drop k)) : seatIn m l ss = ls ++ [(m, l)] := by
  rw [H, List.drop_eq_nil_of_le hk]; simp [restIn, seatIn]
/-- What l3Join answers, and what the seats and the versions are. -/
def JnEq (w : World) (B : Nat) (ep mem : Int) (x y : Value) (vs : List Int) (ss : List (Int × Int)) (e : Ending) (w' : World) : Prop :=
  (e = .returned (.tuple #[svv ep x y, .slice none 0 0, .slice none 0 0, .int .i64 5]) ∧ Below w.heap.size w w') ∨
  ∃ (j : Nat) (y' v' : Value) (ws' : List W4) (u' : Value) (ks' : List (Int × Int)), j < 8 ∧ someB ss (8 + (j : Int)) = false ∧ e = .returned (.tuple #[svv ep x y', v', u', .int .i64 0]) ∧ Ints B x (raiseL vs (idx (path (8 + (j : Int))))) w' ∧ Seats w.heap.size y' (seatIn mem (8 + (j : Int)) ss) w' ∧ Wraps w.heap.size v' ws' w' ∧ ws'.length ≤ 8 ∧ Keys w.heap.size u' ks' w' ∧ ks'.length ≤ 4 ∧ w.grownBy w' x.ownBlock
def JnIs (w : World) (B C : Nat) (ep : Int) (x y : Value) (ss : List (Int × Int)) (e : Ending) (w' : World) : Prop :=
  (e = .returned (.tuple #[svv ep x y, .slice none 0 0, .slice none 0 0, .int .i64 5]) ∧ Below w.heap.size w w') ∨
  ∃ vs' y' ss' v' ws' u' ks', e = .returned (.tuple #[svv ep x y', v', u', .int .i64 0]) ∧ vs'.length = 15 ∧ Ints B x vs' w' ∧ Seats w.heap.size y' ss' w' ∧ ss'.length ≤ ss.length + 1 ∧ Wraps w.heap.size v' ws' w' ∧ ws'.length ≤ 8 ∧ Keys w.heap.size u' ks' w' ∧ ks'.length ≤ 4 ∧ w.grownBy w' x.ownBlock ∧ C = C

set_option maxRecDepth 100000 in
set_option maxHeartbeats 8000000 in
theorem l3Join_eq {B C : Nat} {x y : Value} {vs : List Int} {ss : List (Int × Int)} {w : World} (ep mem : Int) (hl : vs.length = 15) (hx : Ints B x vs w) (hy : Seats C y ss w) (hs : ss.length ≤ 100) :
    Calls Try.prog 153 #[svv ep x y, .int .i64 mem] w fun e w' => JnEq w B ep mem x y vs ss e w' := by
  obtain ⟨iS, hiS, hS0, hS1, hS2⟩ := info_parts infoS2
  obtain ⟨iW, hiW, hW0, hW1, hW2⟩ := info_parts infoW4
  obtain ⟨ax, cx, hvx, _, _⟩ := hx.row
  obtain ⟨ay, cy, hvy, hmy, _⟩ := hy.row
  subst hvx hvy
  unfold maxLen at hmy
  rw [hl] at hx ⊢
  have HY : Hid (∀ W, w.grownBy W (Value.slice ax 15 cx).ownBlock → Seats C (.slice ay ss.length cy) ss W) := fun W hg => hy.kept hg (ne_is hx hy)
  have H1 := ((Hex.start w (ex := fI B (.slice ax 15 cx) vs) (show (fI B (.slice ax 15 cx) vs).on w from hx)).alloc (svb ep (.slice ax 15 cx) (.slice ay ss.length cy))).alloc (svb 0 (.slice none 0 0) (.slice none 0 0))
  simp only [World.size_alloc] at H1
  have HH1 := hidS H1
  have hB1 := two_below w (svb ep (.slice ax 15 cx) (.slice ay ss.length cy)) (svb 0 (.slice none 0 0) (.slice none 0 0))
  have HB1 := hidS hB1
  have hn0 : ss.length ≤ 100 := hs
  clear hx hy H1 hs hB1
  generalize hn : ss.length = n at *
  have HN := hidS hn
  go_enter Try.func153, Try.ntmps153
  go_wp2
  generalize (w.alloc (svb ep (.slice ax 15 cx) (.slice ay n cy))).alloc (svb 0 (.slice none 0 0) (.slice none 0 0)) = w1 at *
  go_loopw [8] (fun i wr => ∃ j : Nat, j ≤ 8 ∧ i = .int .i64 (8 + (j : Int)) ∧ Hid (Below w1.heap.size w1 wr)) (fun i _ => 16 - (intOf i).toNat)
  case atStart => exact ⟨0, by omega, rfl, Below.refl _ _⟩
  case round =>
    obtain ⟨j, hj, rfl, HB⟩ := hrel
    have HH := hidS (HH1.out.since HB.out)
    obtain ⟨⟨p0, p1, p2⟩, _, _, _⟩ := box3 HH.out.b1
    by_cases hj8 : j < 8
    case neg =>
      have hj' : j = 8 := by omega
      subst hj'
      obtain ⟨⟨t0, t1, t2⟩, g0, g1, g2⟩ := box3 HH.out.b0
      have HE := hidS (((HH.out.s300 (.int .i64 ep)).s301 (.slice ax 15 cx)).s302 (.slice ay n cy))
      have HBe := hidS (show Below w.heap.size w (((wr.setCell ⟨w.heap.size + 1, 0, none⟩ (.int .i64 ep)).setCell ⟨w.heap.size + 1, 1, none⟩ (.slice ax 15 cx)).setCell ⟨w.heap.size + 1, 2, none⟩ (.slice ay n cy)) from (((more HB1.out HB.out).setCell (by simp) _).setCell (by simp) _).setCell (by simp) _)
      clear HH HB HH1
      go_wp2
      have HE' := HE.out
      have HBe' := HBe.out
      generalize ((wr.setCell ⟨w.heap.size + 1, 0, none⟩ (.int .i64 ep)).setCell ⟨w.heap.size + 1, 1, none⟩ (.slice ax 15 cx)).setCell ⟨w.heap.size + 1, 2, none⟩ (.slice ay n cy) = WF at HE' HBe' ⊢
      obtain ⟨⟨z0, z1, z2⟩, _, _, _⟩ := box3 HE'.b0
      exact bodyPost_ret (v := .tuple #[svv ep (.slice ax 15 cx) (.slice ay n cy), .slice none 0 0, .slice none 0 0, .int .i64 5]) (by simp [results, Try.results153, go_sem, z0, z1, z2]) rfl (.inl ⟨rfl, HBe'⟩)
    case pos =>
    have hj16 : (8 : Int) + (j : Int) ≤ 15 := by omega
    go_wp2_with fail
    refine (l3Some_eq ep _ (HY.out _ HH.out.bel)).mono ?_
    rintro e w2 ⟨rfl, b2⟩
    obtain ⟨sb, HSB⟩ : ∃ sb, Hid (someB ss (8 + (j : Int)) = sb) := ⟨_, rfl⟩
    rw [HSB.out]
    have HB2 := hidS (more HB.out b2)
    have HH2 := hidS (HH.out.since b2)
    have p0 := cell_since p0 b2
    have p1 := cell_since p1 b2
    have p2 := cell_since p2 b2
    have hs2 : w.heap.size ≤ w2.heap.size := HH2.out.bel.size
    clear b2 HH HB
    cases sb with
    | true =>
      go_wp2
      go_roundw
      case rel => exact ⟨j + 1, by omega, by go_num, HB2⟩
      case measure => simp [intOf] <;> omega
    | false =>
      have HH3 := hidS (HH2.out.add (one_below w2 (.cells #[] 88)) (r := fS w2.heap.size (.slice (some ⟨w2.heap.size, 0, none⟩) 0 0) []) (litS w2 (Nat.le_refl _)) (Nat.le_refl _))
      have hs3 : w2.heap.size ≤ (w2.alloc (.cells #[] 88)).heap.size := by simp
      clear HB2 HH2 HH1 HB1
      go_wp2
      generalize w2.alloc (.cells #[] 88) = w3 at *
      clear p0 p1 p2
      rename World => wq
      go_loopw [9, 10, 11] (fun lv dv i wr => ∃ (k m : Nat) (a : Option Addr) (c : Nat) (ls : List (Int × Int)) (db : Bool), lv = .slice a m c ∧ dv = .bool db ∧ i = .int .i64 (k : Int) ∧ k ≤ n ∧ m ≤ k + 1 ∧ (db = false → m ≤ k) ∧ w2.heap.size ≤ wr.heap.size ∧ Hid (ls.length = m) ∧ Hid (seatIn mem (8 + (j : Int)) ss = ls ++ restIn mem (8 + (j : Int)) db (ss.drop k)) ∧ Hid (Hex w [(w.heap.size + 1, svb 0 (.slice none 0 0) (.slice none 0 0)), (w.heap.size, svb ep (.slice ax 15 cx) (.slice ay n cy))] [fS w2.heap.size (.slice a m c) ls] (fI B (.slice ax 15 cx) vs) wr)) (fun _ _ i _ => n - (intOf i).toNat)
      case atStart => exact ⟨0, 0, _, _, [], false, rfl, rfl, rfl, by omega, by omega, fun _ => by omega, hs3, rfl, (by show _ = _; simp [restIn]), HH3⟩
      case round =>
        obtain ⟨k, m, a, c, ls, db, rfl, rfl, rfl, hk, hmk, hdb, hsw, HM, HR, HH⟩ := hrel
        obtain ⟨⟨p0, p1, p2⟩, fr0, fr1, fr2⟩ := box3 HH.out.b1
        by_cases hlt : k < n
        · obtain ⟨g, ha, hg, hseg⟩ : ∃ g, ay = some ⟨g, 0, none⟩ ∧ g < wr.heap.size ∧ KSeg g 0 ss wr := by
            obtain ⟨a', c', hv', _, hrow⟩ := (HY.out _ HH.out.bel).row
            injection hv' with e1 e2 e3
            subst e1
            rcases hrow with e | e
            · have := HN.out; rw [e] at this; simp at this; omega
            · exact e
          subst ha
          have hlk : k < ss.length := by have := HN.out; omega
          obtain ⟨a1, a2⟩ := hseg k hlk
          simp only [Nat.zero_add] at a1 a2
          obtain ⟨x1, x2, hsk⟩ : ∃ x1 x2, ss[k] = (x1, x2) := ⟨_, _, rfl⟩
          rw [hsk] at a1 a2
          dsimp only at a1 a2
          have HSk := hidS hsk
          clear hsk
          have tokA : True := trivial
          have tokB : True := trivial
          cases db with
          | true =>
            clear hseg
            go_wp2_with (at_builtin; have _t := tokA; clear _t tokA; refine wpList_append_own _ rfl _ _ 25 rfl w2.heap.size 88 iS (.agg #[.int .i64 0, .int .i64 0]) 2 16 Try.underlying25 hiS hS0 hS1 hS2 rfl (by decide) _ _ _ rfl (seatsOwn (show Seats w2.heap.size (.slice a m c) ls wr from HH.out.r0) HM.out _) ⟨wr.heap.size, 0, none⟩ 1 1 [.int .i64 x1, .int .i64 x2] rfl rfl (seatCell2 _ _ _ _ rfl) (by simp [Value.oneCell']) (by unfold maxLen; omega) (by omega) (by simp <;> omega) ?_; intro v' w8 hown' hgrow _; obtain ⟨a8, c8, hv', hI'⟩ := seatRow2 (xs := ls ++ [(x1, x2)]) hown' (kcells_snoc _ _ _) (by rw [List.length_append, HM.out]; rfl); subst hv'; have HM8 : Hid ((ls ++ [(x1, x2)]).length = m + 1) := (by show _ = _; rw [List.length_append, HM.out]; rfl); have HH8 := hidS (HH.out.seat (fun e => by simp [objType] at e) (fun e => by simp [objType] at e) hgrow hI'); have hs8 : w2.heap.size ≤ w8.heap.size := Nat.le_trans (by assumption) (Nat.le_trans (by simp) hgrow.size); clear hown' hI' hgrow)
            go_roundw
            case rel => exact ⟨k + 1, m + 1, a8, c8, _, true, by go_num, rfl, by go_num, by omega, by omega, (fun h => by cases h), hs8, HM8, restIn_t hlk HSk.out HR.out, HH8⟩
            case measure => simp [intOf] <;> omega
          | false =>
            have hmk' := hdb rfl
            by_cases hgt : mem < x1
            · have HSg := hidS (HY.out)
              clear hseg
              go_wp2_with (first | ((at_builtin; have _t := tokA; clear _t tokA; refine wpList_append_own _ rfl _ _ 25 rfl w2.heap.size 88 iS (.agg #[.int .i64 0, .int .i64 0]) 2 16 Try.underlying25 hiS hS0 hS1 hS2 rfl (by decide) _ _ _ rfl (seatsOwn (show Seats w2.heap.size (.slice a m c) ls wr from HH.out.r0) HM.out _) ⟨wr.heap.size, 0, none⟩ 1 1 [.int .i64 mem, .int .i64 (8 + (j : Int))] rfl rfl (seatCell2 _ _ _ _ rfl) (by simp [Value.oneCell']) (by unfold maxLen; omega) (by omega) (by simp <;> omega) ?_; intro v' w8 hown' hgrow _; obtain ⟨a8, c8, hv', hI'⟩ := seatRow2 (xs := ls ++ [(mem, (8 + (j : Int)))]) hown' (kcells_snoc _ _ _) (by rw [List.length_append, HM.out]; rfl); subst hv'; have HM8 : Hid ((ls ++ [(mem, (8 + (j : Int)))]).length = m + 1) := (by show _ = _; rw [List.length_append, HM.out]; rfl); have HH8 := hidS (HH.out.seat (fun e => by simp [objType] at e) (fun e => by simp [objType] at e) hgrow hI'); have hs8 : w2.heap.size ≤ w8.heap.size := Nat.le_trans (by assumption) (Nat.le_trans (by simp) hgrow.size); clear hown' hI' hgrow; obtain ⟨⟨s0, s1, s2⟩, _, _, _⟩ := box3 HH8.out.b1; obtain ⟨b1, b2⟩ := seatCellAt (HY.out _ HH8.out.bel) hlk; rw [HSk.out] at b1 b2)) | (at_builtin; have _t := tokB; clear _t tokB; refine wpList_append_own _ rfl _ _ 25 rfl w2.heap.size 88 iS (.agg #[.int .i64 0, .int .i64 0]) 2 16 Try.underlying25 hiS hS0 hS1 hS2 rfl (by decide) _ _ _ rfl (seatsOwn (show Seats w2.heap.size (.slice a8 (m + 1) c8) (ls ++ [(mem, 8 + (j : Int))]) w8 from HH8.out.r0) HM8.out _) ⟨w8.heap.size, 0, none⟩ 1 1 [.int .i64 x1, .int .i64 x2] rfl rfl (seatCell2 _ _ _ _ rfl) (by simp [Value.oneCell']) (by unfold maxLen; omega) (by omega) (by simp <;> omega) ?_; intro v' w9 hown' hgrow _; obtain ⟨a9, c9, hv', hI'⟩ := seatRow2 (xs := (ls ++ [(mem, 8 + (j : Int))]) ++ [(x1, x2)]) hown' (kcells_snoc _ _ _) (by rw [List.length_append, HM8.out]; rfl); subst hv'; have HM9 : Hid (((ls ++ [(mem, 8 + (j : Int))]) ++ [(x1, x2)]).length = (m + 1) + 1) := (by show _ = _; rw [List.length_append, HM8.out]; rfl); have HH9 := hidS (HH8.out.seat (fun e => by simp [objType] at e) (fun e => by simp [objType] at e) hgrow hI'); have hs9 : w2.heap.size ≤ w9.heap.size := Nat.le_trans (by assumption) (Nat.le_trans (by simp) hgrow.size); clear hown' hI' hgrow))
              go_roundw
              case rel => exact ⟨k + 1, m + 1 + 1, a9, c9, _, true, by go_num, rfl, by go_num, by omega, by omega, (fun h => by cases h), hs9, HM9, restIn_g hlk HSk.out hgt HR.out, HH9⟩
              case measure => simp [intOf] <;> omega
            · clear hseg
              go_wp2_with (at_builtin; have _t := tokA; clear _t tokA; refine wpList_append_own _ rfl _ _ 25 rfl w2.heap.size 88 iS (.agg #[.int .i64 0, .int .i64 0]) 2 16 Try.underlying25 hiS hS0 hS1 hS2 rfl (by decide) _ _ _ rfl (seatsOwn (show Seats w2.heap.size (.slice a m c) ls wr from HH.out.r0) HM.out _) ⟨wr.heap.size, 0, none⟩ 1 1 [.int .i64 x1, .int .i64 x2] rfl rfl (seatCell2 _ _ _ _ rfl) (by simp [Value.oneCell']) (by unfold maxLen; omega) (by omega) (by simp <;> omega) ?_; intro v' w8 hown' hgrow _; obtain ⟨a8, c8, hv', hI'⟩ := seatRow2 (xs := ls ++ [(x1, x2)]) hown' (kcells_snoc _ _ _) (by rw [List.length_append, HM.out]; rfl); subst hv'; have HM8 : Hid ((ls ++ [(x1, x2)]).length = m + 1) := (by show _ = _; rw [List.length_append, HM.out]; rfl); have HH8 := hidS (HH.out.seat (fun e => by simp [objType] at e) (fun e => by simp [objType] at e) hgrow hI'); have hs8 : w2.heap.size ≤ w8.heap.size := Nat.le_trans (by assumption) (Nat.le_trans (by simp) hgrow.size); clear hown' hI' hgrow)
              go_roundw
              case rel => exact ⟨k + 1, m + 1, a8, c8, _, false, by go_num, rfl, by go_num, by omega, by omega, (fun _ => by omega), hs8, HM8, restIn_f hlk HSk.out hgt HR.out, HH8⟩
              case measure => simp [intOf] <;> omega
        · cases db with
          | true =>
            rename World => wo
            have HSI := hidS (restIn_et (by have := HN.out; omega) HR.out)
            clear HR
            clear p0 p1 p2
            obtain ⟨⟨p0, p1, p2⟩, fr0, fr1, fr2⟩ := box3 HH.out.b1
            go_wp2_with fail
            have HH5 := hidS ((HH.out.s312 (.slice a m c)).add (one_below _ (.cells #[] 180)) (r := fW wo.heap.size (.slice (some ⟨wo.heap.size, 0, none⟩) 0 0) []) (litWs wo _ _) (by simp [World.setCell]))
            have hso : w.heap.size ≤ wo.heap.size := Nat.le_trans hs2 (by assumption)
            have hs5 : wo.heap.size ≤ ((wo.setCell ⟨w.heap.size, 2, none⟩ (.slice a m c)).alloc (.cells #[] 180)).heap.size := by simp [World.setCell]
            have hls := HM.out
            generalize (wo.setCell ⟨w.heap.size, 2, none⟩ (.slice a m c)).alloc (.cells #[] 180) = w5 at *
            refine (specPathOf_any (8 + (j : Int)) _).mono ?_
            rintro e w6 ⟨pv, rfl, hP, b6⟩
            obtain ⟨ap, cp, hvp, hmp, _⟩ := hP.row
            subst hvp
            have hpl := path_len (8 + (j : Int))
            have HPI := hidS (path_in (8 + (j : Int)))
            have HH6 := hidS (HH5.out.add b6 (r := fI w5.heap.size (.slice ap (path (8 + (j : Int))).length cp) (path (8 + (j : Int)))) hP (Nat.le_refl _))
            have hs6 : wo.heap.size ≤ w6.heap.size := Nat.le_trans hs5 b6.size
            clear hP b6 HH5 HH HH3
            generalize hps : path (8 + (j : Int)) = ps at *
            have HPS := hidS hps
            clear hps
            generalize hq : ps.length = q at hmp hpl HH6 ⊢
            have HQ := hidS hq
            clear hq
            have HLS := hidS hls
            clear hls
            go_wp2
            go_loopw [12, 14] (fun wv i wr => ∃ (k2 nw : Nat) (aw : Option Addr) (cw : Nat) (ws : List W4), wv = .slice aw nw cw ∧ i = .int .i64 (k2 : Int) ∧ k2 ≤ q ∧ nw ≤ k2 ∧ wo.heap.size ≤ wr.heap.size ∧ Hid (ws.length = nw) ∧ Hid (LvV w [(w.heap.size + 1, svb 0 (.slice none 0 0) (.slice none 0 0)), (w.heap.size, svb ep (.slice ax 15 cx) (.slice a m c))] [fI w5.heap.size (.slice ap q cp) ps, fW wo.heap.size (.slice aw nw cw) ws, fS w2.heap.size (.slice a m c) ls] B (.slice ax 15 cx) (raiseL vs (idx (ps.take k2))) wr)) (fun _ i _ => q - (intOf i).toNat)
            case atStart => exact ⟨0, 0, _, _, [], rfl, rfl, Nat.zero_le _, Nat.le_refl _, hs6, rfl, ⟨hl, HH6.out⟩⟩
            case round =>
              obtain ⟨k2, nw, aw, cw, ws, rfl, rfl, hk2, hnw, hswo, HW, HL⟩ := hrel
              by_cases hlt2 : k2 < q
              · obtain ⟨vsA, HV⟩ : ∃ V, Hid (raiseL vs (idx (ps.take k2)) = V) := ⟨_, rfl⟩
                rw [HV.out] at HL
                have hqk : k2 < ps.length := by have := HQ.out; omega
                have hb15 := HPI.out k2 hqk
                obtain ⟨nd, hnd⟩ : ∃ nd : Nat, ps[k2] = (nd : Int) + 1 := ⟨(ps[k2] - 1).toNat, by omega⟩
                have hnd15 : nd < 15 := by omega
                obtain ⟨gp, hgp⟩ : ∃ gp, ap = some ⟨gp, 0, none⟩ := by
                  obtain ⟨_, H⟩ := HL.out
                  have hI : Ints _ _ ps wr := H.r0
                  rcases hI.form with ⟨_, e'⟩ | ⟨g', cap', e, _⟩
                  · rw [e'] at hqk; simp at hqk
                  · injection e with e; exact ⟨g', e⟩
                subst hgp
                obtain ⟨q0, q1, q2, q3, _⟩ := LvR.cells HL.out.weak gp cp (by rw [HQ.out]) hqk hnd
                obtain ⟨hvA, HA'⟩ := HL.out
                have HU0 := hidS (show raiseL vs (idx (ps.take (k2 + 1))) = vsA.set nd (wrap64 (vAt vsA nd + 1)) by rw [raise_step vs ps k2 nd hqk hnd, HV.out])
                have HA := hidS HA'
                have KI := hidS (show Ints B (.slice ax 15 cx) vsA wr from HA'.exOn)
                have HND := hidS hnd
                clear hb15 hnd HL HA'
                have HS : Hid (∀ W, Below wr.heap.size wr W → (W.cell? ⟨w.heap.size, 0, none⟩ = some (.int .i64 ep) ∧ W.cell? ⟨w.heap.size, 1, none⟩ = some (.slice ax 15 cx) ∧ W.cell? ⟨w.heap.size, 2, none⟩ = some (.slice a m c) ∧ W.cell? ⟨gp, k2, none⟩ = some (.int .i64 ((nd : Int) + 1)) ∧ Below wr.heap.size wr W)) := fun W h => ⟨cell_since q0 h, cell_since q1 h, cell_since q2 h, cell_since q3 h, h⟩
                have oD : Hid ((wr.alloc (kb 0 0)).drew.heap[wr.heap.size]? = some (kb 0 0)) := heap_alloc_new _ _
                obtain ⟨zo, hzo⟩ : ∃ zo, vAt vsA nd = zo := ⟨_, rfl⟩
                go_wp2
                go_region_held3 (fun W => W.cell? ⟨w.heap.size, 0, none⟩ = some (.int .i64 ep) ∧ W.cell? ⟨w.heap.size, 1, none⟩ = some (.slice ax 15 cx) ∧ W.cell? ⟨w.heap.size, 2, none⟩ = some (.slice a m c) ∧ W.cell? ⟨gp, k2, none⟩ = some (.int .i64 ((nd : Int) + 1)) ∧ Below wr.heap.size wr W)
                  (first | exact HS.out _ (Below.refl _ _).drew | exact HS.out _ (more (fiveB ‹_›) b7) | exact HS.out _ (more (fiveB ‹_›) (one_below _ _)) | exact HS.out _ (more bel (one_below _ _)) | exact HS.out _ (((fiveB ‹_›).setCell (by simp <;> omega) _).setCell (by simp <;> omega) _))
                  ((go_at_call 92; refine (l3Key_any ep nd hnd15 hvA (KI.out.since (fiveB ‹_›))).mono ?_; rw [hzo]; rintro e w7 ⟨rfl, b7⟩; have bel := more (fiveB ‹_›) b7; have z7 := bel.size; (first | (have oA := blkSince oD.out b7; obtain ⟨⟨o0, o1⟩, f0, f1⟩ := box2K oA) | skip)))
                all_goals
                  rename_i hHeld
                  have hbW := fiveB hHeld
                  clear hHeld
                  first
                    | (have oK := box2K_set1 (box2K_set0 oA (.int .i64 ((nd : Int) + 1))) (.int .i64 zo)
                       have HG := hidS (HA.out.got hbW oK (Nat.le_refl _))
                       have hsg := Nat.le_trans hswo hbW.size
                       clear oA oK hbW o0 o1 f0 f1
                       clear bel z7 b7 HS oD q0 q1 q2 q3 KI HA
                       generalize ((w7.setCell ⟨wr.heap.size, 0, none⟩ (.int .i64 ((nd : Int) + 1))).setCell ⟨wr.heap.size, 1, none⟩ (.int .i64 zo)) = wg at *
                       generalize wr.heap.size = pk at *)
                    | (have oK := heap_alloc_new w7 (kb ((nd : Int) + 1) zo)
                       have HG := hidS (HA.out.got hbW oK z7)
                       have hsg := Nat.le_trans hswo hbW.size
                       clear oK hbW
                       clear bel z7 b7 HS oD q0 q1 q2 q3 KI HA
                       generalize (w7.alloc (kb ((nd : Int) + 1) zo)) = wg at *
                       generalize w7.heap.size = pk at *)
                  have HL0 : Hid (LvV w [(pk, kb ((nd : Int) + 1) zo), (w.heap.size + 1, svb 0 (.slice none 0 0) (.slice none 0 0)), (w.heap.size, svb ep (.slice ax 15 cx) (.slice a m c))] [fI w5.heap.size (.slice (some ⟨gp, 0, none⟩) q cp) ps, fW wo.heap.size (.slice aw nw cw) ws, fS w2.heap.size (.slice a m c) ls] B (.slice ax 15 cx) vsA wg.drew) := ⟨hvA, HG.out.drew⟩
                  have SO : Hid (∀ W, LvR w [(pk, kb ((nd : Int) + 1) zo), (w.heap.size + 1, svb 0 (.slice none 0 0) (.slice none 0 0)), (w.heap.size, svb ep (.slice ax 15 cx) (.slice a m c))] [fI w5.heap.size (.slice (some ⟨gp, 0, none⟩) q cp) ps, fW wo.heap.size (.slice aw nw cw) ws, fS w2.heap.size (.slice a m c) ls] B (.slice ax 15 cx) W → (W.cell? ⟨w.heap.size, 0, none⟩ = some (.int .i64 ep) ∧ W.cell? ⟨w.heap.size, 1, none⟩ = some (.slice ax 15 cx) ∧ W.cell? ⟨w.heap.size, 2, none⟩ = some (.slice a m c) ∧ W.cell? ⟨gp, k2, none⟩ = some (.int .i64 ((nd : Int) + 1)) ∧ W.cell? ⟨pk, 0, none⟩ = some (.int .i64 ((nd : Int) + 1)) ∧ W.cell? ⟨pk, 1, none⟩ = some (.int .i64 zo) ∧ LvR w [(pk, kb ((nd : Int) + 1) zo), (w.heap.size + 1, svb 0 (.slice none 0 0) (.slice none 0 0)), (w.heap.size, svb ep (.slice ax 15 cx) (.slice a m c))] [fI w5.heap.size (.slice (some ⟨gp, 0, none⟩) q cp) ps, fW wo.heap.size (.slice aw nw cw) ws, fS w2.heap.size (.slice a m c) ls] B (.slice ax 15 cx) W)) := fun W h => LvR.cells6 h gp cp (by rw [HQ.out]) hqk HND.out
                  obtain ⟨q0, q1, q2, q3, q4, q5, _⟩ := SO.out _ ⟨vsA, hvA, HG.out⟩
                  clear HG hzo hvA
                  obtain ⟨U, HUz⟩ : ∃ U, Hid (vsA.set nd (wrap64 (vAt vsA nd + 1)) = U) := ⟨_, rfl⟩
                  have HU := hidS (show raiseL vs (idx (ps.take (k2 + 1))) = U by rw [HU0.out, HUz.out])
                  go_wp2
                  go_region_held3 (fun W => W.cell? ⟨w.heap.size, 0, none⟩ = some (.int .i64 ep) ∧ W.cell? ⟨w.heap.size, 1, none⟩ = some (.slice ax 15 cx) ∧ W.cell? ⟨w.heap.size, 2, none⟩ = some (.slice a m c) ∧ W.cell? ⟨gp, k2, none⟩ = some (.int .i64 ((nd : Int) + 1)) ∧ W.cell? ⟨pk, 0, none⟩ = some (.int .i64 ((nd : Int) + 1)) ∧ W.cell? ⟨pk, 1, none⟩ = some (.int .i64 zo) ∧ LvR w [(pk, kb ((nd : Int) + 1) zo), (w.heap.size + 1, svb 0 (.slice none 0 0) (.slice none 0 0)), (w.heap.size, svb ep (.slice ax 15 cx) (.slice a m c))] [fI w5.heap.size (.slice (some ⟨gp, 0, none⟩) q cp) ps, fW wo.heap.size (.slice aw nw cw) ws, fS w2.heap.size (.slice a m c) ls] B (.slice ax 15 cx) W)
                    (first | exact SO.out _ HL0.out.weak | exact SO.out _ ⟨_, hv9, HMx.out⟩ | exact SO.out _ ⟨_, hv9, ((HMx.out.s320 _).s321 _).s322 _⟩ | assumption)
                    ((go_at_call 155; obtain ⟨hvB, HB⟩ := HL0.out; refine (l3Raise_eq ep a m c nd hnd15 hvB HB.exOn).mono ?_; rintro e w9 ⟨rfl, k9, g9⟩; rw [HUz.out] at k9; have hv9 : U.length = 15 := by { rw [← HUz.out, List.length_set]; exact hvB }; have HMx := hidS (HB.mut (ex' := fI B (.slice ax 15 cx) U) g9 k9 rfl); obtain ⟨⟨o0, o1, o2⟩, f0, f1, f2⟩ := box3 HMx.out.b2; have hs9 := g9.size))
                  all_goals
                    rename_i hHeld
                    have HL1 : Hid (LvV w [(pk, kb ((nd : Int) + 1) zo), (w.heap.size + 1, svb 0 (.slice none 0 0) (.slice none 0 0)), (w.heap.size, svb ep (.slice ax 15 cx) (.slice a m c))] [fI w5.heap.size (.slice (some ⟨gp, 0, none⟩) q cp) ps, fW wo.heap.size (.slice aw nw cw) ws, fS w2.heap.size (.slice a m c) ls] B (.slice ax 15 cx) U (((w9.setCell ⟨w.heap.size, 0, none⟩ (.int .i64 ep)).setCell ⟨w.heap.size, 1, none⟩ (.slice ax 15 cx)).setCell ⟨w.heap.size, 2, none⟩ (.slice a m c))) := ⟨hv9, ((HMx.out.s320 _).s321 _).s322 _⟩
                    have hsa : wo.heap.size ≤ (((w9.setCell ⟨w.heap.size, 0, none⟩ (.int .i64 ep)).setCell ⟨w.heap.size, 1, none⟩ (.slice ax 15 cx)).setCell ⟨w.heap.size, 2, none⟩ (.slice a m c)).heap.size := by
                      simp only [World.setCell, Array.size_modify]
                      exact Nat.le_trans hsg hs9
                    clear hHeld HMx f0 f1 f2 o0 o1 o2 k9 g9 hs9 HL0 q0 q1 q2 q3 q4 q5 HB hv9
                    generalize (((w9.setCell ⟨w.heap.size, 0, none⟩ (.int .i64 ep)).setCell ⟨w.heap.size, 1, none⟩ (.slice ax 15 cx)).setCell ⟨w.heap.size, 2, none⟩ (.slice a m c)) = wa at *
                    by_cases hk0 : (0 : Int) < (k2 : Int)
                    · obtain ⟨q0, q1, q2, q3, q4, q5, _⟩ := SO.out _ HL1.out.weak
                      obtain ⟨hvC, HC'⟩ := HL1.out
                      have HC := hidS HC'.drew
                      have KI2 := hidS (show Ints B (.slice ax 15 cx) U wa.drew from HC'.drew.exOn)
                      have KW := hidS (show Wraps wo.heap.size (.slice aw nw cw) ws wa.drew from HC'.drew.r1)
                      obtain ⟨zn, hzn⟩ : ∃ zn, vAt U nd = zn := ⟨_, rfl⟩
                      clear HC' HL1
                      go_wp2
                      go_region_held3 (fun W => W.cell? ⟨w.heap.size, 0, none⟩ = some (.int .i64 ep) ∧ W.cell? ⟨w.heap.size, 1, none⟩ = some (.slice ax 15 cx) ∧ W.cell? ⟨w.heap.size, 2, none⟩ = some (.slice a m c) ∧ W.cell? ⟨gp, k2, none⟩ = some (.int .i64 ((nd : Int) + 1)) ∧ W.cell? ⟨pk, 0, none⟩ = some (.int .i64 ((nd : Int) + 1)) ∧ W.cell? ⟨pk, 1, none⟩ = some (.int .i64 zo))
                        (first | exact ⟨q0, q1, q2, q3, q4, q5⟩ | exact six_since ‹_› b11 | exact six_since ‹_› (one_below _ _) | exact sixOf (LvR.cells6 HT.out.weak gp cp (by rw [HQ.out]) hqk HND.out) | assumption)
                        (first
                          | (go_at_call 92; refine (l3Key_any ep nd hnd15 hvC KI2.out).mono ?_; rw [hzn]; rintro e w11 ⟨rfl, b11⟩; have hs11 : wo.heap.size ≤ w11.heap.size := Nat.le_trans hsa b11.size)
                          | (refine step_append_k _ (by rfl) _ _ _ (by rfl) wo.heap.size 180 iW (.agg #[.int .i64 0, .int .i64 0, .int .i64 0, .int .i64 0]) 4 32 Try.underlying44 hiW hW0 hW1 hW2 rfl (by omega) (.slice aw nw cw) nw _ (by rfl) (by exact wraps_own (wrapsS KW.out b11) HW.out _) ⟨w11.heap.size, 0, none⟩ 1 _ [.int .i64 ((nd : Int) + 1), .int .i64 zo, .int .i64 ((nd : Int) + 1), .int .i64 zn] (by rfl) (by rfl) (by exact wrap_cells4 _ _ _ _ _) (by simp [Value.oneCell']) (by omega) (by unfold maxLen; omega) (by omega) (by simp <;> omega) _ rfl ?_; intro gB cB wB hownB hgB hatB hltB; have HT : Hid (LvV w [(pk, kb ((nd : Int) + 1) zo), (w.heap.size + 1, svb 0 (.slice none 0 0) (.slice none 0 0)), (w.heap.size, svb ep (.slice ax 15 cx) (.slice a m c))] [fI w5.heap.size (.slice (some ⟨gp, 0, none⟩) q cp) ps, fW wo.heap.size (.slice (some ⟨gB, 0, none⟩) (nw + 1) cB) (ws ++ [((nd : Int) + 1, zo, (nd : Int) + 1, zn)]), fS w2.heap.size (.slice a m c) ls] B (.slice ax 15 cx) U wB) := ⟨hvC, ((HC.out.since b11).since (one_below _ _)).turn1 (r' := fW wo.heap.size (.slice (some ⟨gB, 0, none⟩) (nw + 1) cB) (ws ++ [((nd : Int) + 1, zo, (nd : Int) + 1, zn)])) hgB (wraps_of hownB (by rw [wcells_append]; rfl) (by rw [List.length_append, HW.out]; rfl)) rfl wrapAlone3⟩; have hsB : wo.heap.size ≤ wB.heap.size := Nat.le_trans hs11 (Nat.le_trans (by simp) hgB.size)))
                      all_goals
                        rename_i hHeld
                        have HT2 : Hid (LvV w [(w.heap.size + 1, svb 0 (.slice none 0 0) (.slice none 0 0)), (w.heap.size, svb ep (.slice ax 15 cx) (.slice a m c))] [fI w5.heap.size (.slice (some ⟨gp, 0, none⟩) q cp) ps, fW wo.heap.size (.slice (some ⟨gB, 0, none⟩) (nw + 1) cB) (ws ++ [((nd : Int) + 1, zo, (nd : Int) + 1, zn)]), fS w2.heap.size (.slice a m c) ls] B (.slice ax 15 cx) U wB) := by
                          obtain ⟨h', H⟩ := HT.out
                          exact ⟨h', H.dropb0⟩
                        clear hHeld HT hownB hgB hatB b11 KW KI2 HC q0 q1 q2 q3 q4 q5
                        go_wp2
                        go_roundw
                        case rel => exact ⟨k2 + 1, nw + 1, some ⟨gB, 0, none⟩, cB, ws ++ [((nd : Int) + 1, zo, (nd : Int) + 1, zn)], rfl, by go_num, by omega, by omega, hsB, (by show _ = _; rw [List.length_append, HW.out]; rfl), (by rw [HU.out]; exact HT2)⟩
                        case measure => simp [intOf] <;> omega
                    · have HT2 : Hid (LvV w [(w.heap.size + 1, svb 0 (.slice none 0 0) (.slice none 0 0)), (w.heap.size, svb ep (.slice ax 15 cx) (.slice a m c))] [fI w5.heap.size (.slice (some ⟨gp, 0, none⟩) q cp) ps, fW wo.heap.size (.slice aw nw cw) ws, fS w2.heap.size (.slice a m c) ls] B (.slice ax 15 cx) U wa) := by
                        obtain ⟨h', H⟩ := HL1.out
                        exact ⟨h', H.dropb0⟩
                      clear HL1
                      go_wp2
                      go_roundw
                      case rel => exact ⟨k2 + 1, nw, aw, cw, ws, rfl, by go_num, by omega, by omega, hsa, HW, (by rw [HU.out]; exact HT2)⟩
                      case measure => simp [intOf] <;> omega
              · have HAll := hidS (show ps.take k2 = ps from List.take_of_length_le (by have := HQ.out; omega))
                rw [HAll.out] at HL
                obtain ⟨vsF, HVF⟩ : ∃ V, Hid (raiseL vs (idx ps) = V) := ⟨_, rfl⟩
                rw [HVF.out] at HL
                obtain ⟨hvF, HF⟩ := HL.out
                obtain ⟨⟨q0, q1, q2⟩, _, _, _⟩ := box3 HF.b1
                have HFd := hidS HF.drew
                have KIF := hidS (show Ints B (.slice ax 15 cx) vsF wr.drew from HF.drew.exOn)
                have hwrs : w.heap.size + 1 < wr.heap.size := blkLt HF.b0
                have hlf15 : (8 : Int) ≤ 8 + (j : Int) ∧ 8 + (j : Int) ≤ 15 := ⟨by omega, by omega⟩
                have HLf := hidS hlf15
                clear HF HL hlf15
                go_wp2
                go_region_held3 (fun W => W.cell? ⟨w.heap.size, 0, none⟩ = some (.int .i64 ep) ∧ W.cell? ⟨w.heap.size, 1, none⟩ = some (.slice ax 15 cx) ∧ W.cell? ⟨w.heap.size, 2, none⟩ = some (.slice a m c))
                  (first | exact ⟨q0, q1, q2⟩ | exact three_since ‹_› b12 | exact three_set ‹_› (by simp) (by simp) (by simp) _ _ _ | assumption)
                  ((go_at_call 45; refine (l3Keys_any ep _ KIF.out HLf.out hvF).mono ?_; rintro e w12 ⟨a12, c12, rfl, k12, b12⟩; have HX12 := hidS (HFd.out.since b12); have K12 := hidS k12; have hn12 : (Value.slice a12 4 c12).ownBlock ≠ some (w.heap.size + 1) := (fun e => by have : w.heap.size + 1 < wr.heap.size := hwrs; have := (k12.lt _ e).1; exact absurd this (Nat.not_le.2 hwrs)); obtain ⟨⟨o0, o1, o2⟩, f0, f1, f2⟩ := box3 HX12.out.b0))
                all_goals
                  rename_i hHeld
                  have HE := hidS (((HX12.out.s300 (.int .i64 ep)).s301 (.slice ax 15 cx)).s302 (.slice a m c))
                  have HKk := hidS (keysKeep (o := 2) (keysKeep (o := 1) (keysKeep (o := 0) (K12.out.mono (show w.heap.size ≤ wr.drew.heap.size by show w.heap.size ≤ wr.heap.size; omega)) (.int .i64 ep) hn12) (.slice ax 15 cx) hn12) (.slice a m c) hn12)
                  have hKl : ((keysOn vsF (8 + (j : Int))).reverse).length = 4 := by rw [List.length_reverse, keysOn_len HLf.out]
                  have hls := HLS.out
                  have hws := HW.out
                  clear hHeld HX12 K12 hn12 b12 o0 o1 o2 f0 f1 f2 q0 q1 q2 HFd KIF k12
                  generalize ((w12.setCell ⟨w.heap.size + 1, 0, none⟩ (.int .i64 ep)).setCell ⟨w.heap.size + 1, 1, none⟩ (.slice ax 15 cx)).setCell ⟨w.heap.size + 1, 2, none⟩ (.slice a m c) = WF at *
                  go_wp2
                  obtain ⟨⟨z0, z1, z2⟩, _, _, _⟩ := box3 HE.out.b0
                  have kS : Seats w2.heap.size (.slice a m c) ls WF := HE.out.r2
                  have kW : Wraps wo.heap.size (.slice aw nw cw) ws WF := HE.out.r1
                  have kI : Ints B (.slice ax 15 cx) vsF WF := HE.out.exOn
                  exact bodyPost_ret (v := .tuple #[svv ep (.slice ax 15 cx) (.slice a m c), .slice aw nw cw, .slice a12 4 c12, .int .i64 0]) (by simp [results, Try.results153, go_sem, z0, z1, z2]) rfl (.inr ⟨j, _, _, ws, _, _, hj8, HSB.out, rfl, (by rw [HPS.out, HVF.out]; exact kI), (by rw [HSI.out]; exact kS.mono hs2), kW.mono hso, by omega, HKk.out, by omega, HE.out.bel⟩)
          | false =>
            have tokA : True := trivial
            have hmk' := hdb rfl
            rename World => wo
            have HSI := hidS (restIn_ef (by have := HN.out; omega) HR.out)
            clear HR
            go_wp2_with (at_builtin; have _t := tokA; clear _t tokA; refine wpList_append_own _ rfl _ _ 25 rfl w2.heap.size 88 iS (.agg #[.int .i64 0, .int .i64 0]) 2 16 Try.underlying25 hiS hS0 hS1 hS2 rfl (by decide) _ _ _ rfl (seatsOwn (show Seats w2.heap.size (.slice a m c) ls wo from HH.out.r0) HM.out _) ⟨wo.heap.size, 0, none⟩ 1 1 [.int .i64 mem, .int .i64 (8 + (j : Int))] rfl rfl (seatCell2 _ _ _ _ rfl) (by simp [Value.oneCell']) (by unfold maxLen; omega) (by omega) (by simp <;> omega) ?_; intro v' w8 hown' hgrow _; obtain ⟨a8, c8, hv', hI'⟩ := seatRow2 (xs := ls ++ [(mem, (8 + (j : Int)))]) hown' (kcells_snoc _ _ _) (by rw [List.length_append, HM.out]; rfl); subst hv'; have HM8 : Hid ((ls ++ [(mem, (8 + (j : Int)))]).length = m + 1) := (by show _ = _; rw [List.length_append, HM.out]; rfl); have HH8 := hidS (HH.out.seat (fun e => by simp [objType] at e) (fun e => by simp [objType] at e) hgrow hI'); have hs8 : w2.heap.size ≤ w8.heap.size := Nat.le_trans (by assumption) (Nat.le_trans (by simp) hgrow.size); clear hown' hI' hgrow; obtain ⟨⟨s0, s1, s2⟩, e0, e1, e2⟩ := box3 HH8.out.b1)
            have HH5 := hidS ((HH8.out.s312 (.slice a8 (m + 1) c8)).add (one_below _ (.cells #[] 180)) (r := fW w8.heap.size (.slice (some ⟨w8.heap.size, 0, none⟩) 0 0) []) (litWs w8 _ _) (by simp [World.setCell]))
            have hso : w.heap.size ≤ w8.heap.size := Nat.le_trans hs2 (by assumption)
            have hs5 : w8.heap.size ≤ ((w8.setCell ⟨w.heap.size, 2, none⟩ (.slice a8 (m + 1) c8)).alloc (.cells #[] 180)).heap.size := by simp [World.setCell]
            have hls := HM8.out
            generalize (w8.setCell ⟨w.heap.size, 2, none⟩ (.slice a8 (m + 1) c8)).alloc (.cells #[] 180) = w5 at *
            refine (specPathOf_any (8 + (j : Int)) _).mono ?_
            rintro e w6 ⟨pv, rfl, hP, b6⟩
            obtain ⟨ap, cp, hvp, hmp, _⟩ := hP.row
            subst hvp
            have hpl := path_len (8 + (j : Int))
            have HPI := hidS (path_in (8 + (j : Int)))
            have HH6 := hidS (HH5.out.add b6 (r := fI w5.heap.size (.slice ap (path (8 + (j : Int))).length cp) (path (8 + (j : Int)))) hP (Nat.le_refl _))
            have hs6 : w8.heap.size ≤ w6.heap.size := Nat.le_trans hs5 b6.size
            clear hP b6 HH5 HH8 HH3
            generalize hps : path (8 + (j : Int)) = ps at *
            have HPS := hidS hps
            clear hps
            generalize hq : ps.length = q at hmp hpl HH6 ⊢
            have HQ := hidS hq
            clear hq
            have HLS := hidS hls
            clear hls
            go_wp2
            go_loopw [12, 14] (fun wv i wr => ∃ (k2 nw : Nat) (aw : Option Addr) (cw : Nat) (ws : List W4), wv = .slice aw nw cw ∧ i = .int .i64 (k2 : Int) ∧ k2 ≤ q ∧ nw ≤ k2 ∧ w8.heap.size ≤ wr.heap.size ∧ Hid (ws.length = nw) ∧ Hid (LvV w [(w.heap.size + 1, svb 0 (.slice none 0 0) (.slice none 0 0)), (w.heap.size, svb ep (.slice ax 15 cx) (.slice a8 (m + 1) c8))] [fI w5.heap.size (.slice ap q cp) ps, fW w8.heap.size (.slice aw nw cw) ws, fS w2.heap.size (.slice a8 (m + 1) c8) (ls ++ [(mem, 8 + (j : Int))])] B (.slice ax 15 cx) (raiseL vs (idx (ps.take k2))) wr)) (fun _ i _ => q - (intOf i).toNat)
            case atStart => exact ⟨0, 0, _, _, [], rfl, rfl, Nat.zero_le _, Nat.le_refl _, hs6, rfl, ⟨hl, HH6.out⟩⟩
            case round =>
              obtain ⟨k2, nw, aw, cw, ws, rfl, rfl, hk2, hnw, hswo, HW, HL⟩ := hrel
              by_cases hlt2 : k2 < q
              · obtain ⟨vsA, HV⟩ : ∃ V, Hid (raiseL vs (idx (ps.take k2)) = V) := ⟨_, rfl⟩
                rw [HV.out] at HL
                have hqk : k2 < ps.length := by have := HQ.out; omega
                have hb15 := HPI.out k2 hqk
                obtain ⟨nd, hnd⟩ : ∃ nd : Nat, ps[k2] = (nd : Int) + 1 := ⟨(ps[k2] - 1).toNat, by omega⟩
                have hnd15 : nd < 15 := by omega
                obtain ⟨gp, hgp⟩ : ∃ gp, ap = some ⟨gp, 0, none⟩ := by
                  obtain ⟨_, H⟩ := HL.out
                  have hI : Ints _ _ ps wr := H.r0
                  rcases hI.form with ⟨_, e'⟩ | ⟨g', cap', e, _⟩
                  · rw [e'] at hqk; simp at hqk
                  · injection e with e; exact ⟨g', e⟩
                subst hgp
                obtain ⟨q0, q1, q2, q3, _⟩ := LvR.cells HL.out.weak gp cp (by rw [HQ.out]) hqk hnd
                obtain ⟨hvA, HA'⟩ := HL.out
                have HU0 := hidS (show raiseL vs (idx (ps.take (k2 + 1))) = vsA.set nd (wrap64 (vAt vsA nd + 1)) by rw [raise_step vs ps k2 nd hqk hnd, HV.out])
                have HA := hidS HA'
                have KI := hidS (show Ints B (.slice ax 15 cx) vsA wr from HA'.exOn)
                have HND := hidS hnd
                clear hb15 hnd HL HA'
                have HS : Hid (∀ W, Below wr.heap.size wr W → (W.cell? ⟨w.heap.size, 0, none⟩ = some (.int .i64 ep) ∧ W.cell? ⟨w.heap.size, 1, none⟩ = some (.slice ax 15 cx) ∧ W.cell? ⟨w.heap.size, 2, none⟩ = some (.slice a8 (m + 1) c8) ∧ W.cell? ⟨gp, k2, none⟩ = some (.int .i64 ((nd : Int) + 1)) ∧ Below wr.heap.size wr W)) := fun W h => ⟨cell_since q0 h, cell_since q1 h, cell_since q2 h, cell_since q3 h, h⟩
                have oD : Hid ((wr.alloc (kb 0 0)).drew.heap[wr.heap.size]? = some (kb 0 0)) := heap_alloc_new _ _
                obtain ⟨zo, hzo⟩ : ∃ zo, vAt vsA nd = zo := ⟨_, rfl⟩
                go_wp2
                go_region_held3 (fun W => W.cell? ⟨w.heap.size, 0, none⟩ = some (.int .i64 ep) ∧ W.cell? ⟨w.heap.size, 1, none⟩ = some (.slice ax 15 cx) ∧ W.cell? ⟨w.heap.size, 2, none⟩ = some (.slice a8 (m + 1) c8) ∧ W.cell? ⟨gp, k2, none⟩ = some (.int .i64 ((nd : Int) + 1)) ∧ Below wr.heap.size wr W)
                  (first | exact HS.out _ (Below.refl _ _).drew | exact HS.out _ (more (fiveB ‹_›) b7) | exact HS.out _ (more (fiveB ‹_›) (one_below _ _)) | exact HS.out _ (more bel (one_below _ _)) | exact HS.out _ (((fiveB ‹_›).setCell (by simp <;> omega) _).setCell (by simp <;> omega) _))
                  ((go_at_call 92; refine (l3Key_any ep nd hnd15 hvA (KI.out.since (fiveB ‹_›))).mono ?_; rw [hzo]; rintro e w7 ⟨rfl, b7⟩; have bel := more (fiveB ‹_›) b7; have z7 := bel.size; (first | (have oA := blkSince oD.out b7; obtain ⟨⟨o0, o1⟩, f0, f1⟩ := box2K oA) | skip)))
                all_goals
                  rename_i hHeld
                  have hbW := fiveB hHeld
                  clear hHeld
                  first
                    | (have oK := box2K_set1 (box2K_set0 oA (.int .i64 ((nd : Int) + 1))) (.int .i64 zo)
                       have HG := hidS (HA.out.got hbW oK (Nat.le_refl _))
                       have hsg := Nat.le_trans hswo hbW.size
                       clear oA oK hbW o0 o1 f0 f1
                       clear bel z7 b7 HS oD q0 q1 q2 q3 KI HA
                       generalize ((w7.setCell ⟨wr.heap.size, 0, none⟩ (.int .i64 ((nd : Int) + 1))).setCell ⟨wr.heap.size, 1, none⟩ (.int .i64 zo)) = wg at *
                       generalize wr.heap.size = pk at *)
                    | (have oK := heap_alloc_new w7 (kb ((nd : Int) + 1) zo)
                       have HG := hidS (HA.out.got hbW oK z7)
                       have hsg := Nat.le_trans hswo hbW.size
                       clear oK hbW
                       clear bel z7 b7 HS oD q0 q1 q2 q3 KI HA
                       generalize (w7.alloc (kb ((nd : Int) + 1) zo)) = wg at *
                       generalize w7.heap.size = pk at *)
                  have HL0 : Hid (LvV w [(pk, kb ((nd : Int) + 1) zo), (w.heap.size + 1, svb 0 (.slice none 0 0) (.slice none 0 0)), (w.heap.size, svb ep (.slice ax 15 cx) (.slice a8 (m + 1) c8))] [fI w5.heap.size (.slice (some ⟨gp, 0, none⟩) q cp) ps, fW w8.heap.size (.slice aw nw cw) ws, fS w2.heap.size (.slice a8 (m + 1) c8) (ls ++ [(mem, 8 + (j : Int))])] B (.slice ax 15 cx) vsA wg.drew) := ⟨hvA, HG.out.drew⟩
                  have SO : Hid (∀ W, LvR w [(pk, kb ((nd : Int) + 1) zo), (w.heap.size + 1, svb 0 (.slice none 0 0) (.slice none 0 0)), (w.heap.size, svb ep (.slice ax 15 cx) (.slice a8 (m + 1) c8))] [fI w5.heap.size (.slice (some ⟨gp, 0, none⟩) q cp) ps, fW w8.heap.size (.slice aw nw cw) ws, fS w2.heap.size (.slice a8 (m + 1) c8) (ls ++ [(mem, 8 + (j : Int))])] B (.slice ax 15 cx) W → (W.cell? ⟨w.heap.size, 0, none⟩ = some (.int .i64 ep) ∧ W.cell? ⟨w.heap.size, 1, none⟩ = some (.slice ax 15 cx) ∧ W.cell? ⟨w.heap.size, 2, none⟩ = some (.slice a8 (m + 1) c8) ∧ W.cell? ⟨gp, k2, none⟩ = some (.int .i64 ((nd : Int) + 1)) ∧ W.cell? ⟨pk, 0, none⟩ = some (.int .i64 ((nd : Int) + 1)) ∧ W.cell? ⟨pk, 1, none⟩ = some (.int .i64 zo) ∧ LvR w [(pk, kb ((nd : Int) + 1) zo), (w.heap.size + 1, svb 0 (.slice none 0 0) (.slice none 0 0)), (w.heap.size, svb ep (.slice ax 15 cx) (.slice a8 (m + 1) c8))] [fI w5.heap.size (.slice (some ⟨gp, 0, none⟩) q cp) ps, fW w8.heap.size (.slice aw nw cw) ws, fS w2.heap.size (.slice a8 (m + 1) c8) (ls ++ [(mem, 8 + (j : Int))])] B (.slice ax 15 cx) W)) := fun W h => LvR.cells6 h gp cp (by rw [HQ.out]) hqk HND.out
                  obtain ⟨q0, q1, q2, q3, q4, q5, _⟩ := SO.out _ ⟨vsA, hvA, HG.out⟩
                  clear HG hzo hvA
                  obtain ⟨U, HUz⟩ : ∃ U, Hid (vsA.set nd (wrap64 (vAt vsA nd + 1)) = U) := ⟨_, rfl⟩
                  have HU := hidS (show raiseL vs (idx (ps.take (k2 + 1))) = U by rw [HU0.out, HUz.out])
                  go_wp2
                  go_region_held3 (fun W => W.cell? ⟨w.heap.size, 0, none⟩ = some (.int .i64 ep) ∧ W.cell? ⟨w.heap.size, 1, none⟩ = some (.slice ax 15 cx) ∧ W.cell? ⟨w.heap.size, 2, none⟩ = some (.slice a8 (m + 1) c8) ∧ W.cell? ⟨gp, k2, none⟩ = some (.int .i64 ((nd : Int) + 1)) ∧ W.cell? ⟨pk, 0, none⟩ = some (.int .i64 ((nd : Int) + 1)) ∧ W.cell? ⟨pk, 1, none⟩ = some (.int .i64 zo) ∧ LvR w [(pk, kb ((nd : Int) + 1) zo), (w.heap.size + 1, svb 0 (.slice none 0 0) (.slice none 0 0)), (w.heap.size, svb ep (.slice ax 15 cx) (.slice a8 (m + 1) c8))] [fI w5.heap.size (.slice (some ⟨gp, 0, none⟩) q cp) ps, fW w8.heap.size (.slice aw nw cw) ws, fS w2.heap.size (.slice a8 (m + 1) c8) (ls ++ [(mem, 8 + (j : Int))])] B (.slice ax 15 cx) W)
                    (first | exact SO.out _ HL0.out.weak | exact SO.out _ ⟨_, hv9, HMx.out⟩ | exact SO.out _ ⟨_, hv9, ((HMx.out.s320 _).s321 _).s322 _⟩ | assumption)
                    ((go_at_call 155; obtain ⟨hvB, HB⟩ := HL0.out; refine (l3Raise_eq ep a8 (m + 1) c8 nd hnd15 hvB HB.exOn).mono ?_; rintro e w9 ⟨rfl, k9, g9⟩; rw [HUz.out] at k9; have hv9 : U.length = 15 := by { rw [← HUz.out, List.length_set]; exact hvB }; have HMx := hidS (HB.mut (ex' := fI B (.slice ax 15 cx) U) g9 k9 rfl); obtain ⟨⟨o0, o1, o2⟩, f0, f1, f2⟩ := box3 HMx.out.b2; have hs9 := g9.size))
                  all_goals
                    rename_i hHeld
                    have HL1 : Hid (LvV w [(pk, kb ((nd : Int) + 1) zo), (w.heap.size + 1, svb 0 (.slice none 0 0) (.slice none 0 0)), (w.heap.size, svb ep (.slice ax 15 cx) (.slice a8 (m + 1) c8))] [fI w5.heap.size (.slice (some ⟨gp, 0, none⟩) q cp) ps, fW w8.heap.size (.slice aw nw cw) ws, fS w2.heap.size (.slice a8 (m + 1) c8) (ls ++ [(mem, 8 + (j : Int))])] B (.slice ax 15 cx) U (((w9.setCell ⟨w.heap.size, 0, none⟩ (.int .i64 ep)).setCell ⟨w.heap.size, 1, none⟩ (.slice ax 15 cx)).setCell ⟨w.heap.size, 2, none⟩ (.slice a8 (m + 1) c8))) := ⟨hv9, ((HMx.out.s320 _).s321 _).s322 _⟩
                    have hsa : w8.heap.size ≤ (((w9.setCell ⟨w.heap.size, 0, none⟩ (.int .i64 ep)).setCell ⟨w.heap.size, 1, none⟩ (.slice ax 15 cx)).setCell ⟨w.heap.size, 2, none⟩ (.slice a8 (m + 1) c8)).heap.size := by
                      simp only [World.setCell, Array.size_modify]
                      exact Nat.le_trans hsg hs9
                    clear hHeld HMx f0 f1 f2 o0 o1 o2 k9 g9 hs9 HL0 q0 q1 q2 q3 q4 q5 HB hv9
                    generalize (((w9.setCell ⟨w.heap.size, 0, none⟩ (.int .i64 ep)).setCell ⟨w.heap.size, 1, none⟩ (.slice ax 15 cx)).setCell ⟨w.heap.size, 2, none⟩ (.slice a8 (m + 1) c8)) = wa at *
                    by_cases hk0 : (0 : Int) < (k2 : Int)
                    · obtain ⟨q0, q1, q2, q3, q4, q5, _⟩ := SO.out _ HL1.out.weak
                      obtain ⟨hvC, HC'⟩ := HL1.out
                      have HC := hidS HC'.drew
                      have KI2 := hidS (show Ints B (.slice ax 15 cx) U wa.drew from HC'.drew.exOn)
                      have KW := hidS (show Wraps w8.heap.size (.slice aw nw cw) ws wa.drew from HC'.drew.r1)
                      obtain ⟨zn, hzn⟩ : ∃ zn, vAt U nd = zn := ⟨_, rfl⟩
                      clear HC' HL1
                      go_wp2
                      go_region_held3 (fun W => W.cell? ⟨w.heap.size, 0, none⟩ = some (.int .i64 ep) ∧ W.cell? ⟨w.heap.size, 1, none⟩ = some (.slice ax 15 cx) ∧ W.cell? ⟨w.heap.size, 2, none⟩ = some (.slice a8 (m + 1) c8) ∧ W.cell? ⟨gp, k2, none⟩ = some (.int .i64 ((nd : Int) + 1)) ∧ W.cell? ⟨pk, 0, none⟩ = some (.int .i64 ((nd : Int) + 1)) ∧ W.cell? ⟨pk, 1, none⟩ = some (.int .i64 zo))
                        (first | exact ⟨q0, q1, q2, q3, q4, q5⟩ | exact six_since ‹_› b11 | exact six_since ‹_› (one_below _ _) | exact sixOf (LvR.cells6 HT.out.weak gp cp (by rw [HQ.out]) hqk HND.out) | assumption)
                        (first
                          | (go_at_call 92; refine (l3Key_any ep nd hnd15 hvC KI2.out).mono ?_; rw [hzn]; rintro e w11 ⟨rfl, b11⟩; have hs11 : w8.heap.size ≤ w11.heap.size := Nat.le_trans hsa b11.size)
                          | (refine step_append_k _ (by rfl) _ _ _ (by rfl) w8.heap.size 180 iW (.agg #[.int .i64 0, .int .i64 0, .int .i64 0, .int .i64 0]) 4 32 Try.underlying44 hiW hW0 hW1 hW2 rfl (by omega) (.slice aw nw cw) nw _ (by rfl) (by exact wraps_own (wrapsS KW.out b11) HW.out _) ⟨w11.heap.size, 0, none⟩ 1 _ [.int .i64 ((nd : Int) + 1), .int .i64 zo, .int .i64 ((nd : Int) + 1), .int .i64 zn] (by rfl) (by rfl) (by exact wrap_cells4 _ _ _ _ _) (by simp [Value.oneCell']) (by omega) (by unfold maxLen; omega) (by omega) (by simp <;> omega) _ rfl ?_; intro gB cB wB hownB hgB hatB hltB; have HT : Hid (LvV w [(pk, kb ((nd : Int) + 1) zo), (w.heap.size + 1, svb 0 (.slice none 0 0) (.slice none 0 0)), (w.heap.size, svb ep (.slice ax 15 cx) (.slice a8 (m + 1) c8))] [fI w5.heap.size (.slice (some ⟨gp, 0, none⟩) q cp) ps, fW w8.heap.size (.slice (some ⟨gB, 0, none⟩) (nw + 1) cB) (ws ++ [((nd : Int) + 1, zo, (nd : Int) + 1, zn)]), fS w2.heap.size (.slice a8 (m + 1) c8) (ls ++ [(mem, 8 + (j : Int))])] B (.slice ax 15 cx) U wB) := ⟨hvC, ((HC.out.since b11).since (one_below _ _)).turn1 (r' := fW w8.heap.size (.slice (some ⟨gB, 0, none⟩) (nw + 1) cB) (ws ++ [((nd : Int) + 1, zo, (nd : Int) + 1, zn)])) hgB (wraps_of hownB (by rw [wcells_append]; rfl) (by rw [List.length_append, HW.out]; rfl)) rfl wrapAlone3⟩; have hsB : w8.heap.size ≤ wB.heap.size := Nat.le_trans hs11 (Nat.le_trans (by simp) hgB.size)))
                      all_goals
                        rename_i hHeld
                        have HT2 : Hid (LvV w [(w.heap.size + 1, svb 0 (.slice none 0 0) (.slice none 0 0)), (w.heap.size, svb ep (.slice ax 15 cx) (.slice a8 (m + 1) c8))] [fI w5.heap.size (.slice (some ⟨gp, 0, none⟩) q cp) ps, fW w8.heap.size (.slice (some ⟨gB, 0, none⟩) (nw + 1) cB) (ws ++ [((nd : Int) + 1, zo, (nd : Int) + 1, zn)]), fS w2.heap.size (.slice a8 (m + 1) c8) (ls ++ [(mem, 8 + (j : Int))])] B (.slice ax 15 cx) U wB) := by
                          obtain ⟨h', H⟩ := HT.out
                          exact ⟨h', H.dropb0⟩
                        clear hHeld HT hownB hgB hatB b11 KW KI2 HC q0 q1 q2 q3 q4 q5
                        go_wp2
                        go_roundw
                        case rel => exact ⟨k2 + 1, nw + 1, some ⟨gB, 0, none⟩, cB, ws ++ [((nd : Int) + 1, zo, (nd : Int) + 1, zn)], rfl, by go_num, by omega, by omega, hsB, (by show _ = _; rw [List.length_append, HW.out]; rfl), (by rw [HU.out]; exact HT2)⟩
                        case measure => simp [intOf] <;> omega
                    · have HT2 : Hid (LvV w [(w.heap.size + 1, svb 0 (.slice none 0 0) (.slice none 0 0)), (w.heap.size, svb ep (.slice ax 15 cx) (.slice a8 (m + 1) c8))] [fI w5.heap.size (.slice (some ⟨gp, 0, none⟩) q cp) ps, fW w8.heap.size (.slice aw nw cw) ws, fS w2.heap.size (.slice a8 (m + 1) c8) (ls ++ [(mem, 8 + (j : Int))])] B (.slice ax 15 cx) U wa) := by
                        obtain ⟨h', H⟩ := HL1.out
                        exact ⟨h', H.dropb0⟩
                      clear HL1
                      go_wp2
                      go_roundw
                      case rel => exact ⟨k2 + 1, nw, aw, cw, ws, rfl, by go_num, by omega, by omega, hsa, HW, (by rw [HU.out]; exact HT2)⟩
                      case measure => simp [intOf] <;> omega
              · have HAll := hidS (show ps.take k2 = ps from List.take_of_length_le (by have := HQ.out; omega))
                rw [HAll.out] at HL
                obtain ⟨vsF, HVF⟩ : ∃ V, Hid (raiseL vs (idx ps) = V) := ⟨_, rfl⟩
                rw [HVF.out] at HL
                obtain ⟨hvF, HF⟩ := HL.out
                obtain ⟨⟨q0, q1, q2⟩, _, _, _⟩ := box3 HF.b1
                have HFd := hidS HF.drew
                have KIF := hidS (show Ints B (.slice ax 15 cx) vsF wr.drew from HF.drew.exOn)
                have hwrs : w.heap.size + 1 < wr.heap.size := blkLt HF.b0
                have hlf15 : (8 : Int) ≤ 8 + (j : Int) ∧ 8 + (j : Int) ≤ 15 := ⟨by omega, by omega⟩
                have HLf := hidS hlf15
                clear HF HL hlf15
                go_wp2
                go_region_held3 (fun W => W.cell? ⟨w.heap.size, 0, none⟩ = some (.int .i64 ep) ∧ W.cell? ⟨w.heap.size, 1, none⟩ = some (.slice ax 15 cx) ∧ W.cell? ⟨w.heap.size, 2, none⟩ = some (.slice a8 (m + 1) c8))
                  (first | exact ⟨q0, q1, q2⟩ | exact three_since ‹_› b12 | exact three_set ‹_› (by simp) (by simp) (by simp) _ _ _ | assumption)
                  ((go_at_call 45; refine (l3Keys_any ep _ KIF.out HLf.out hvF).mono ?_; rintro e w12 ⟨a12, c12, rfl, k12, b12⟩; have HX12 := hidS (HFd.out.since b12); have K12 := hidS k12; have hn12 : (Value.slice a12 4 c12).ownBlock ≠ some (w.heap.size + 1) := (fun e => by have : w.heap.size + 1 < wr.heap.size := hwrs; have := (k12.lt _ e).1; exact absurd this (Nat.not_le.2 hwrs)); obtain ⟨⟨o0, o1, o2⟩, f0, f1, f2⟩ := box3 HX12.out.b0))
                all_goals
                  rename_i hHeld
                  have HE := hidS (((HX12.out.s300 (.int .i64 ep)).s301 (.slice ax 15 cx)).s302 (.slice a8 (m + 1) c8))
                  have HKk := hidS (keysKeep (o := 2) (keysKeep (o := 1) (keysKeep (o := 0) (K12.out.mono (show w.heap.size ≤ wr.drew.heap.size by show w.heap.size ≤ wr.heap.size; omega)) (.int .i64 ep) hn12) (.slice ax 15 cx) hn12) (.slice a8 (m + 1) c8) hn12)
                  have hKl : ((keysOn vsF (8 + (j : Int))).reverse).length = 4 := by rw [List.length_reverse, keysOn_len HLf.out]
                  have hls := HLS.out
                  have hws := HW.out
                  clear hHeld HX12 K12 hn12 b12 o0 o1 o2 f0 f1 f2 q0 q1 q2 HFd KIF k12
                  generalize ((w12.setCell ⟨w.heap.size + 1, 0, none⟩ (.int .i64 ep)).setCell ⟨w.heap.size + 1, 1, none⟩ (.slice ax 15 cx)).setCell ⟨w.heap.size + 1, 2, none⟩ (.slice a8 (m + 1) c8) = WF at *
                  go_wp2
                  obtain ⟨⟨z0, z1, z2⟩, _, _, _⟩ := box3 HE.out.b0
                  have kS : Seats w2.heap.size (.slice a8 (m + 1) c8) (ls ++ [(mem, 8 + (j : Int))]) WF := HE.out.r2
                  have kW : Wraps w8.heap.size (.slice aw nw cw) ws WF := HE.out.r1
                  have kI : Ints B (.slice ax 15 cx) vsF WF := HE.out.exOn
                  exact bodyPost_ret (v := .tuple #[svv ep (.slice ax 15 cx) (.slice a8 (m + 1) c8), .slice aw nw cw, .slice a12 4 c12, .int .i64 0]) (by simp [results, Try.results153, go_sem, z0, z1, z2]) rfl (.inr ⟨j, _, _, ws, _, _, hj8, HSB.out, rfl, (by rw [HPS.out, HVF.out]; exact kI), (by rw [HSI.out]; exact kS.mono hs2), kW.mono hso, by omega, HKk.out, by omega, HE.out.bel⟩)

theorem l3Join_any {B C : Nat} {x y : Value} {vs : List Int} {ss : List (Int × Int)} {w : World} (ep mem : Int) (hl : vs.length = 15) (hx : Ints B x vs w) (hy : Seats C y ss w) (hs : ss.length ≤ 100) :
    Calls Try.prog 153 #[svv ep x y, .int .i64 mem] w fun e w' => JnIs w B C ep x y ss e w' := (l3Join_eq ep mem hl hx hy hs).mono fun _ _ h => h.elim (fun h => .inl h) fun ⟨_, y', v', ws', u', ks', _, _, he, hI, hS, hW, h8, hK, h4, hr⟩ => .inr ⟨_, y', _, v', ws', u', ks', he, by rw [raiseL_len, hl], hI, hS, Nat.le_of_eq (seatIn_len _ _ _), hW, h8, hK, h4, hr, rfl⟩
end Go.Proofs.Ytgddobdpibnkeaa
/- Towards l3Done of the model: more laws of the bundle. -/
namespace Go.Proofs.Ytgddobdpibnkeaa
open Go.RowKit

abbrev rvD (ep : Int) (x : Value) : Value := .agg #[.int .i64 ep, x]
abbrev rbD (ep : Int) (x : Value) : Obj := .cells #[.int .i64 ep, x] 46
theorem below_none {w W : World} (h : w.grownBy W none) : Below w.heap.size w W := ⟨h.os, h.tape, h.output, h.size, fun k hk => h.block k hk (by simp)⟩
/-- No row came in. -/
abbrev noRow : RowF := fI 0 (.slice none 0 0) []
theorem noRow_on (W : World) : noRow.on W := World.ownsRow_nil W 0 2 1
section
variable {w0 W W' : World} {bs : List (Nat × Obj)} {rs : List RowF} {ex : RowF}
/-- The row at a place comes first. -/
theorem Hex.front {pre post : List RowF} {r : RowF} (H : Hex w0 bs (pre ++ r :: post) ex W) : Hex w0 bs (r :: (pre ++ post)) ex W := by
  have hap := List.pairwise_append.1 H.apart
  have hap2 := List.pairwise_cons.1 hap.2.1
  have hin : ∀ s, s ∈ r :: (pre ++ post) → s ∈ pre ++ r :: post := fun s hs => by
    rcases List.mem_cons.1 hs with rfl | hs
    · exact List.mem_append_right _ (.head _)
    · rcases List.mem_append.1 hs with hs | hs
      · exact List.mem_append_left _ hs
      · exact List.mem_append_right _ (.tail _ hs)
  refine ⟨H.bel, H.exOn, H.low, H.box, H.new, H.nod, fun s hs => H.row s (hin s hs), fun s hs => H.fresh s (hin s hs), List.pairwise_cons.2 ⟨fun s hs k e e' => ?_, List.pairwise_append.2 ⟨hap.1, hap2.2, fun s hs x hx => hap.2.2 s hs x (.tail _ hx)⟩⟩, fun p hp s hs => H.off p hp s (hin s hs)⟩
  rcases List.mem_append.1 hs with hs | hs
  · exact hap.2.2 s hs r (.head _) k e' e
  · exact hap2.1 s hs k e e'
theorem Hex.front2 {x0 x1 r : RowF} (H : Hex w0 bs (x0 :: x1 :: r :: rs) ex W) : Hex w0 bs (r :: x0 :: x1 :: rs) ex W := Hex.front (pre := [x0, x1]) H
/-- New rows of one call. -/
theorem Hex.adds (H : Hex w0 bs rs ex W) (hb : Below W.heap.size W W') : ∀ ns : List RowF, (∀ r, r ∈ ns → r.on W') → (∀ r, r ∈ ns → W.heap.size ≤ r.B) → (ns.Pairwise fun r s => ∀ k, r.v.ownBlock = some k → s.v.ownBlock ≠ some k) → Hex w0 bs (ns ++ rs) ex W'
  | [], _, _, _ => H.since hb
  | r :: ns, h, hB, hp => by
    have hp' := List.pairwise_cons.1 hp
    have H1 := Hex.adds H hb ns (fun s hs => h s (.tail _ hs)) (fun s hs => hB s (.tail _ hs)) hp'.2
    have H2 := H.add hb (h r (.head _)) (hB r (.head _))
    refine ⟨H1.bel, H1.exOn, H1.low, H1.box, H1.new, H1.nod, ?_, ?_, List.pairwise_cons.2 ⟨fun s hs => ?_, H1.apart⟩, ?_⟩
    · intro s hs
      rcases List.mem_cons.1 hs with rfl | hs
      · exact h _ (.head _)
      · exact H1.row s hs
    · intro s hs
      rcases List.mem_cons.1 hs with rfl | hs
      · exact H2.fresh _ (.head _)
      · exact H1.fresh s hs
    · rcases List.mem_append.1 hs with hs | hs
      · exact hp'.1 s hs
      · exact (List.pairwise_cons.1 H2.apart).1 s hs
    · intro p hpm s hs
      rcases List.mem_cons.1 hs with rfl | hs
      · exact H2.off p hpm _ (.head _)
      · exact H1.off p hpm s hs
/-- A call that writes over a row of one's own and makes new ones. -/
theorem Hex.more {r r' : RowF} (H : Hex w0 bs (r :: rs) ex W) (hg : W.grownBy W' r.v.ownBlock) (h : r'.on W') (hv : r'.v = r.v) (hrB : r'.B = r.B) (ns : List RowF) (hn : ∀ s, s ∈ ns → s.on W') (hB : ∀ s, s ∈ ns → W.heap.size ≤ s.B) (hp : ns.Pairwise fun r s => ∀ k, r.v.ownBlock = some k → s.v.ownBlock ≠ some k) : Hex w0 bs (ns ++ r' :: rs) ex W' := by
  have hap := List.pairwise_cons.1 H.apart
  have hlow : ∀ k, r.v.ownBlock = some k → w0.heap.size ≤ k := fun k e => Nat.le_trans (H.fresh r (.head _)) ((H.row r (.head _)).lt k e).1
  have hin : ∀ k, r.v.ownBlock = some k → k < W.heap.size := fun k e => ((H.row r (.head _)).lt k e).2
  have hmem : ∀ s, s ∈ ns ++ r' :: rs → s ∈ ns ∨ s = r' ∨ s ∈ rs := fun s hs => by
    rcases List.mem_append.1 hs with hs | hs
    · exact .inl hs
    · exact .inr (List.mem_cons.1 hs)
  have hbox : ∀ p, p ∈ bs → W'.heap[p.1]? = some p.2 := fun p hp => by
    rw [hg.block p.1 (blkLt (H.box p hp)) (fun e => H.off p hp r (.head _) e.symm)]
    exact H.box p hp
  refine ⟨grown_via H.bel hg (fun k e => .inr (hlow k e)), RowF.kept H.exOn hg (fun k e e' => by have := hlow k e; have := H.low k e'; omega), H.low, hbox, H.new, H.nod, ?_, ?_, ?_, ?_⟩
  · intro s hs
    rcases hmem s hs with hs | rfl | hs
    · exact hn s hs
    · exact h
    · exact RowF.kept (H.row s (.tail _ hs)) hg (fun k e e' => hap.1 s hs k e e')
  · intro s hs
    rcases hmem s hs with hs | rfl | hs
    · exact Nat.le_trans H.bel.size (hB s hs)
    · rw [hrB]
      exact H.fresh r (.head _)
    · exact H.fresh s (.tail _ hs)
  · refine List.pairwise_append.2 ⟨hp, List.pairwise_cons.2 ⟨fun s hs => by rw [hv]; exact hap.1 s hs, hap.2⟩, fun s hs x hx k e e' => ?_⟩
    have h1 := ((hn s hs).lt k e).1
    have h2 := hB s hs
    rcases List.mem_cons.1 hx with rfl | hx
    · rw [hv] at e'
      have := hin k e'
      omega
    · have := ((H.row x (.tail _ hx)).lt k e').2
      omega
  · intro p hp s hs e
    rcases hmem s hs with hs | rfl | hs
    · have h1 := ((hn s hs).lt _ e).1
      have h2 := hB s hs
      have h3 := blkLt (H.box p hp)
      omega
    · rw [hv] at e
      exact H.off p hp r (.head _) e
    · exact H.off p hp s (.tail _ hs) e
end
theorem three_rows {W : World} {A D E : Nat} {y v u : Value} {ss : List (Int × Int)} {ws : List W4} {ks : List (Int × Int)} (h1 : Seats A y ss W) (h2 : Wraps D v ws W) (h3 : Keys E u ks W) :
    (∀ s, s ∈ [fS A y ss, fW D v ws, fK E u ks] → s.on W) ∧ [fS A y ss, fW D v ws, fK E u ks].Pairwise fun r s => ∀ k, r.v.ownBlock = some k → s.v.ownBlock ≠ some k := by
  refine ⟨fun s hs => ?_, List.pairwise_cons.2 ⟨fun s hs => ?_, List.pairwise_cons.2 ⟨fun s hs => ?_, List.pairwise_cons.2 ⟨(fun _ h => nomatch h), .nil⟩⟩⟩⟩
  · simp only [List.mem_cons, List.not_mem_nil, or_false] at hs
    rcases hs with rfl | rfl | rfl
    · exact h1
    · exact h2
    · exact h3
  · simp only [List.mem_cons, List.not_mem_nil, or_false] at hs
    rcases hs with rfl | rfl
    · exact rows_ne (r := fS A y ss) (s := fW D v ws) h1 h2 (show (88 : TypeId) ≠ 180 by decide)
    · exact rows_ne (r := fS A y ss) (s := fK E u ks) h1 h3 (show (88 : TypeId) ≠ 37 by decide)
  · simp only [List.mem_cons, List.not_mem_nil, or_false] at hs
    subst hs
    exact rows_ne (r := fW D v ws) (s := fK E u ks) h2 h3 (show (180 : TypeId) ≠ 37 by decide)
theorem two_rows {W : World} {A D : Nat} {y v : Value} {ss : List (Int × Int)} {ws : List W4} (h1 : Seats A y ss W) (h2 : Wraps D v ws W) :
    (∀ s, s ∈ [fS A y ss, fW D v ws] → s.on W) ∧ [fS A y ss, fW D v ws].Pairwise fun r s => ∀ k, r.v.ownBlock = some k → s.v.ownBlock ≠ some k := by
  refine ⟨fun s hs => ?_, List.pairwise_cons.2 ⟨fun s hs => ?_, List.pairwise_cons.2 ⟨(fun _ h => nomatch h), .nil⟩⟩⟩
  · simp only [List.mem_cons, List.not_mem_nil, or_false] at hs
    rcases hs with rfl | rfl
    · exact h1
    · exact h2
  · simp only [List.mem_cons, List.not_mem_nil, or_false] at hs
    subst hs
    exact rows_ne (r := fS A y ss) (s := fW D v ws) h1 h2 (show (88 : TypeId) ≠ 180 by decide)
theorem litWd (X : World) : (X.alloc (.cells #[] 180)).ownsRow X.heap.size 180 4 (.slice (some ⟨X.heap.size, 0, none⟩) 0 0) 0 [] := World.ownsRow_lit X #[] 0 (Nat.le_refl _) (by decide) rfl
theorem litKd (X : World) : (X.alloc (.cells #[] 37)).ownsRow X.heap.size 37 2 (.slice (some ⟨X.heap.size, 0, none⟩) 0 0) 0 [] := World.ownsRow_lit X #[] 0 (Nat.le_refl _) (by decide) rfl
theorem two_set {W : World} {p1 p2 p3 : Addr} {v1 v2 v3 : Value} {R : Nat} (h : W.cell? p1 = some v1 ∧ W.cell? p2 = some v2 ∧ W.cell? p3 = some v3) (h1 : p1.block ≠ R) (h2 : p2.block ≠ R) (h3 : p3.block ≠ R) (a b : Value) :
    ((W.setCell ⟨R, 0, none⟩ a).setCell ⟨R, 1, none⟩ b).cell? p1 = some v1 ∧ ((W.setCell ⟨R, 0, none⟩ a).setCell ⟨R, 1, none⟩ b).cell? p2 = some v2 ∧ ((W.setCell ⟨R, 0, none⟩ a).setCell ⟨R, 1, none⟩ b).cell? p3 = some v3 := by
  have hc : ∀ {p : Addr} {v : Value}, W.cell? p = some v → p.block ≠ R → ((W.setCell ⟨R, 0, none⟩ a).setCell ⟨R, 1, none⟩ b).cell? p = some v := fun {p v} hp hl =>
    (grown_set _ R 1 b).cell ((grown_set W R 0 a).cell hp (fun e => by cases e; exact hl rfl)) (fun e => by cases e; exact hl rfl)
  exact ⟨hc h.1 h1, hc h.2.1 h2, hc h.2.2 h3⟩
theorem drew3 {W : World} {p1 p2 p3 : Addr} {v1 v2 v3 : Value} (h : W.cell? p1 = some v1 ∧ W.cell? p2 = some v2 ∧ W.cell? p3 = some v3) : W.drew.cell? p1 = some v1 ∧ W.drew.cell? p2 = some v2 ∧ W.drew.cell? p3 = some v3 := h
/-- What Done answers: a server, a rekey, keys and a code, all in new memory. -/
def DnOut (w : World) (N : Nat) (ok : Prop) (e : Ending) (w' : World) : Prop :=
  ∃ (ep' : Int) (x' y' : Value) (vs' : List Int) (ss' : List (Int × Int)) (re : Int) (v' : Value) (ws : List W4) (u' : Value) (ks : List (Int × Int)) (code : Int), e = .returned (.tuple #[svv ep' x' y', rvD re v', u', .int .i64 code]) ∧ vs'.length ≤ 15 ∧ Ints w.heap.size x' vs' w' ∧ Seats w.heap.size y' ss' w' ∧ ss'.length ≤ N ∧ Wraps w.heap.size v' ws w' ∧ ws.length ≤ 8 ∧ Keys w.heap.size u' ks w' ∧ ks.length ≤ 4 ∧ Below w.heap.size w w' ∧ (ok → serverB ep' vs' ss' = true)
end Go.Proofs.Ytgddobdpibnkeaa
/- What the drawn laws of servers draw: an op. -/
namespace Go.Proofs.Ytgddobdpibnkeaa
open Go.RowKit

set_option maxRecDepth 100000 in
set_option maxHeartbeats 2000000 in
theorem drawOp_any (B R : Nat) (W : World) (h : Q.Rd B R W) :
    Calls Try.prog 86 #[.pointer (some ⟨R, 0, none⟩)] W fun e W' => ∃ k m : Int, e = .returned (kv k m) ∧ Q.Rd B R W' ∧ W.grownBy W' (some R) := by
  have H1 := hidS ((RdX.start h).alloc (opb 0 0))
  clear h
  go_enter Try.func86, Try.ntmps86
  go_wp2_with fail
  generalize W.alloc (opb 0 0) = w1 at *
  refine (Q.below_any B R 6 _ H1.out.rd (by omega) (by omega)).mono ?_
  rintro e w2 ⟨n, hn0, hn1, rfl, hR2, hg2⟩
  have H2 := hidS (H1.out.read hR2 hg2)
  clear H1 hR2 hg2
  obtain ⟨⟨c0, c1⟩, f0, f1⟩ := box2K H2.out.b0
  by_cases h4 : n = 4
  · have h4' : (n == 4) = true := by simpa using h4
    have HF := hidS (H2.out.map (fun _ H => (H.s200 (.int .i64 3)).s201 (.int .i64 0)))
    clear h4 H2
    go_wp2
    have HF' := HF.out
    generalize (w2.setCell ⟨W.heap.size, 0, none⟩ (.int .i64 3)).setCell ⟨W.heap.size, 1, none⟩ (.int .i64 0) = WF at HF' ⊢
    obtain ⟨⟨z0, z1⟩, _, _⟩ := box2K HF'.b0
    exact bodyPost_ret (v := kv 3 0) (by simp [results, Try.results86, go_sem, z0, z1]) rfl ⟨3, 0, rfl, HF'.rd, HF'.grown⟩
  · have h4' : (n == 4) = false := by simpa using h4
    clear h4
    by_cases h23 : n = 2 ∨ n = 3
    · have h2' : (n == 2) = true ∨ ((n == 2) = false ∧ (n == 3) = true) := by
        rcases h23 with e | e
        · exact .inl (by simpa using e)
        · exact .inr ⟨by rw [e]; decide, by simpa using e⟩
      clear h23
      rcases h2' with h2' | ⟨h2', h3'⟩
      all_goals
        go_wp2_with fail
        refine (Q.below_any B R 6 _ H2.out.rd (by omega) (by omega)).mono ?_
        rintro e w3 ⟨m, hm0, hm1, rfl, hR3, hg3⟩
        have H3 := hidS (H2.out.read hR3 hg3)
        clear H2 hR3 hg3 c0 c1 f0 f1
        obtain ⟨⟨c0, c1⟩, f0, f1⟩ := box2K H3.out.b0
        have HF := hidS (H3.out.map (fun _ H => (H.s200 (.int .i64 2)).s201 (.int .i64 (1 + m))))
        clear H3
        go_wp2
        have HF' := HF.out
        generalize (w3.setCell ⟨W.heap.size, 0, none⟩ (.int .i64 2)).setCell ⟨W.heap.size, 1, none⟩ (.int .i64 (1 + m)) = WF at HF' ⊢
        obtain ⟨⟨z0, z1⟩, _, _⟩ := box2K HF'.b0
        exact bodyPost_ret (v := kv 2 (1 + m)) (by simp [results, Try.results86, go_sem, z0, z1]) rfl ⟨2, 1 + m, rfl, HF'.rd, HF'.grown⟩
    · have h2' : (n == 2) = false := by simp; omega
      have h3' : (n == 3) = false := by simp; omega
      clear h23
      go_wp2_with fail
      refine (Q.below_any B R 6 _ H2.out.rd (by omega) (by omega)).mono ?_
      rintro e w3 ⟨m, hm0, hm1, rfl, hR3, hg3⟩
      have H3 := hidS ((H2.out.read hR3 hg3).alloc (opb 1 (1 + m)))
      clear H2 hR3 hg3 c0 c1 f0 f1
      go_wp2_with fail
      generalize hw4 : w3.alloc (opb 1 (1 + m)) = w4 at *
      have HP := hidS (show w3.heap.size < w4.heap.size by rw [← hw4]; simp)
      clear hw4
      refine (Q.once_any B R 12 _ H3.out.rd (by omega) (by omega)).mono ?_
      rintro e w5 ⟨t, rfl, hR5, hg5⟩
      have H5 := hidS (H3.out.read hR5 hg5)
      clear H3 hR5 hg5 HP
      obtain ⟨⟨c0, c1⟩, f0, f1⟩ := box2K H5.out.b0
      obtain ⟨⟨d0, d1⟩, g0, g1⟩ := box2K H5.out.b1
      cases t with
      | false =>
        have HF := hidS (H5.out.map (fun _ H => (H.s210 (.int .i64 1)).s211 (.int .i64 (1 + m))))
        clear H5
        go_wp2
        have HF' := HF.out
        generalize (w5.setCell ⟨W.heap.size, 0, none⟩ (.int .i64 1)).setCell ⟨W.heap.size, 1, none⟩ (.int .i64 (1 + m)) = WF at HF' ⊢
        obtain ⟨⟨z0, z1⟩, _, _⟩ := box2K HF'.b1
        exact bodyPost_ret (v := kv 1 (1 + m)) (by simp [results, Try.results86, go_sem, z0, z1]) rfl ⟨1, 1 + m, rfl, HF'.rd, HF'.grown⟩
      | true =>
        go_wp2_with fail
        refine (Q.off_any B R 1 20 _ H5.out.rd (by omega) (by omega) (by omega)).mono ?_
        rintro e w6 ⟨o, _, rfl, hR6, hg6⟩
        have H6 := hidS (H5.out.read hR6 hg6)
        clear H5 hR6 hg6 c0 c1 f0 f1 d0 d1 g0 g1
        obtain ⟨⟨c0, c1⟩, f0, f1⟩ := box2K H6.out.b0
        obtain ⟨⟨d0, d1⟩, g0, g1⟩ := box2K H6.out.b1
        have hne : w3.heap.size ≠ W.heap.size := H6.out.at fun _ H => (List.pairwise_cons.1 H.nod).1 _ (.head _)
        have HF := hidS (H6.out.map (fun _ H => ((H.s201 (.int .i64 o)).s210 (.int .i64 1)).s211 (.int .i64 o)))
        clear H6
        go_wp2
        have HF' := HF.out
        generalize ((w6.setCell ⟨w3.heap.size, 1, none⟩ (.int .i64 o)).setCell ⟨W.heap.size, 0, none⟩ (.int .i64 1)).setCell ⟨W.heap.size, 1, none⟩ (.int .i64 o) = WF at HF' ⊢
        obtain ⟨⟨z0, z1⟩, _, _⟩ := box2K HF'.b1
        exact bodyPost_ret (v := kv 1 o) (by simp [results, Try.results86, go_sem, z0, z1]) rfl ⟨1, o, rfl, HF'.rd, HF'.grown⟩
end Go.Proofs.Ytgddobdpibnkeaa
/- What an op leaves of a right server is right: as facts on lists. -/
namespace Go.Proofs.Ytgddobdpibnkeaa
open Go.RowKit

theorem paths8 : ∀ j : Nat, j < 8 → (idx (path (8 + (j : Int)))).Nodup ∧ (∀ i ∈ idx (path (8 + (j : Int))), i < 15) ∧ (8 + (j : Int)) ∈ path (8 + (j : Int)) := by
  intro j hj
  match j, hj with
  | 0, _ => decide
  | 1, _ => decide
  | 2, _ => decide
  | 3, _ => decide
  | 4, _ => decide
  | 5, _ => decide
  | 6, _ => decide
  | 7, _ => decide
theorem leaf_nat {l : Int} (h : 8 ≤ l ∧ l ≤ 15) : ∃ j : Nat, j < 8 ∧ l = 8 + (j : Int) := ⟨(l - 8).toNat, by omega, by omega⟩
theorem serverB_parts {ep : Int} {vs : List Int} {ss : List (Int × Int)} : serverB ep vs ss = true ↔ (0 ≤ ep ∧ ep ≤ 1000000000) ∧ versB vs = true ∧ seatsB ss = true := by
  simp only [serverB, Bool.and_eq_true, decide_eq_true_eq]
theorem roomB_parts {ep : Int} {vs : List Int} (h : roomB ep vs = true) (hl : vs.length = 15) : (∀ i, i < 15 → vAt vs i ≠ 1000000000) ∧ ep < 1000000000 := by
  simp only [roomB, Bool.and_eq_true, List.all_eq_true, List.mem_range, decide_eq_true_eq] at h
  exact ⟨fun i hi => h.1 i (by omega), h.2⟩
theorem epoch_next {ep : Int} (h : 0 ≤ ep ∧ ep ≤ 1000000000) (h2 : ep < 1000000000) : 0 ≤ wrap64 (ep + 1) ∧ wrap64 (ep + 1) ≤ 1000000000 := by
  unfold wrap64; omega
theorem seat_found {ss : List (Int × Int)} {m : Int} {s : Int × Int} (hs : s ∈ ss) (e : s.1 = m) : ∃ t ∈ ss, t.1 = m ∧ leafV ss m = t.2 := by
  unfold leafV seatOf
  cases h : ss.find? (fun s => decide (s.1 = m)) with
  | none =>
    have := List.find?_eq_none.1 h s hs
    simp [e] at this
  | some t =>
    refine ⟨t, List.mem_of_find?_eq_some h, ?_, by simp⟩
    have := List.find?_some h
    simpa using this
theorem leaf_of {ss : List (Int × Int)} {m : Int} (h : 0 < leafV ss m) : ∃ t ∈ ss, t.1 = m ∧ leafV ss m = t.2 := by
  unfold leafV seatOf at h ⊢
  cases hf : ss.find? (fun s => decide (s.1 = m)) with
  | none => rw [hf] at h; simp at h
  | some t =>
    refine ⟨t, List.mem_of_find?_eq_some hf, ?_, by simp⟩
    have := List.find?_some hf
    simpa using this

theorem join_right {ep m : Int} {vs : List Int} {ss : List (Int × Int)} {j : Nat} (h : serverB ep vs ss = true) (hr : roomB ep vs = true) (hm : 1 ≤ m ∧ m ≤ 20) (hno : ¬ 0 < leafV ss m) (hj : j < 8) (hs : someB ss (8 + (j : Int)) = false) :
    serverB (wrap64 (ep + 1)) (raiseL vs (idx (path (8 + (j : Int))))) (seatIn m (8 + (j : Int)) ss) = true := by
  obtain ⟨h1, h2, h3⟩ := serverB_parts.1 h
  obtain ⟨p1, p2, p3⟩ := paths8 j hj
  have hl := (versB_iff.1 h2).1
  obtain ⟨r1, r2⟩ := roomB_parts hr hl
  have hR := seatsB_right.1 h3
  refine serverB_parts.2 ⟨epoch_next h1 r2, versB_raise h2 r1 p1 p2, seatsB_right.2 (hR.more hm (by omega) (fun s hs' e => ?_) (fun s hs' e => ?_))⟩
  · obtain ⟨t, ht, _, e2⟩ := seat_found hs' e
    have := (hR.rng t ht).2
    omega
  · have : someB ss (8 + (j : Int)) = true := by
      obtain ⟨i, hi, rfl⟩ := List.getElem_of_mem hs'
      simp only [someB, List.any_eq_true, List.mem_range, decide_eq_true_eq]
      refine ⟨i, hi, ?_⟩
      rw [kAt_get ss i hi, e]
      exact p3
    rw [hs] at this
    cases this
theorem leave_right {ep m : Int} {vs : List Int} {ss : List (Int × Int)} (h : serverB ep vs ss = true) (hr : roomB ep vs = true) (hlf : 0 < leafV ss m) :
    serverB (wrap64 (ep + 1)) (raiseL vs (idx (path (leafV ss m)))) (ss.filter fun s => decide (s.1 ≠ m)) = true := by
  obtain ⟨h1, h2, h3⟩ := serverB_parts.1 h
  have hR := seatsB_right.1 h3
  obtain ⟨t, ht, _, e2⟩ := leaf_of hlf
  obtain ⟨j, hj, e3⟩ := leaf_nat (hR.rng t ht).2
  rw [e2, e3]
  obtain ⟨p1, p2, p3⟩ := paths8 j hj
  have hl := (versB_iff.1 h2).1
  obtain ⟨r1, r2⟩ := roomB_parts hr hl
  exact serverB_parts.2 ⟨epoch_next h1 r2, versB_raise h2 r1 p1 p2, seatsB_right.2 (hR.less _)⟩
theorem refresh_right {ep : Int} {vs : List Int} {ss : List (Int × Int)} (h : serverB ep vs ss = true) (hr : roomB ep vs = true) :
    serverB (wrap64 (ep + 1)) (vs.set 0 (wrap64 (vAt vs 0 + 1))) ss = true := by
  obtain ⟨h1, h2, h3⟩ := serverB_parts.1 h
  have hl := (versB_iff.1 h2).1
  obtain ⟨r1, r2⟩ := roomB_parts hr hl
  have := versB_raise (ns := [0]) h2 r1 (by simp) (by simp)
  exact serverB_parts.2 ⟨epoch_next h1 r2, this, h3⟩
theorem form_join {k m : Int} (h : formB k m = true) (hk : k = 1) : 1 ≤ m ∧ m ≤ 20 := by
  simpa [formB, hk] using h
end Go.Proofs.Ytgddobdpibnkeaa
