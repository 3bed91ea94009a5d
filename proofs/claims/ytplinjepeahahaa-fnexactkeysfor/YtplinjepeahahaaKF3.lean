
/- KeysFor of the program: the keys of the nodes from a leaf to the root, rising. -/
import Derived.Test.YtplinjepeahahaaKF2
import Derived.Test.YtplinjepeahahaaPathOf
namespace Go.Proofs.Ytplinjepeahahaa
open Go.RowKit

def keysOn (vs : List Int) (l : Int) : List (Int × Int) := (path l).map fun n => (n, vAt vs (n.toNat - 1))
theorem path_four {l : Int} (h1 : 8 ≤ l) (h2 : l ≤ 15) : (path l).length = 4 ∧ ∀ i (hi : i < (path l).length), 1 ≤ (path l)[i] ∧ (path l)[i] ≤ 15 := by
  have : l = 8 ∨ l = 9 ∨ l = 10 ∨ l = 11 ∨ l = 12 ∨ l = 13 ∨ l = 14 ∨ l = 15 := by omega
  rcases this with rfl | rfl | rfl | rfl | rfl | rfl | rfl | rfl <;> decide
def kfB (ep : Int) (vs : List Int) (ss : List (Int × Int)) (m : Int) : Bool := serverB ep vs ss && (seatOf ss m).isSome
def kfL (ep : Int) (vs : List Int) (ss : List (Int × Int)) (m : Int) : List (Int × Int) := if kfB ep vs ss m = true then (keysOn vs (leafV ss m)).reverse else []
theorem kf_not {ep : Int} {vs : List Int} {ss : List (Int × Int)} {m : Int} (h : kfB ep vs ss m = false) : kfL ep vs ss m = [] := by unfold kfL; rw [h]; rfl
theorem keysOn_len {vs : List Int} {l : Int} (h : 8 ≤ l ∧ l ≤ 15) : (keysOn vs l).length = 4 := by unfold keysOn; rw [List.length_map]; exact (path_four h.1 h.2).1
theorem keysOn_at {vs : List Int} {l : Int} (k : Nat) (hk : k < (path l).length) : (keysOn vs l).take (k + 1) = (keysOn vs l).take k ++ [((path l)[k], vAt vs ((path l)[k].toNat - 1))] := by
  have hk' : k < (keysOn vs l).length := by unfold keysOn; rw [List.length_map]; exact hk
  rw [List.take_succ_eq_append_getElem hk']
  simp [keysOn]
theorem kfL_len (ep : Int) (vs : List Int) (ss : List (Int × Int)) (m : Int) : (kfL ep vs ss m).length ≤ 4 := by
  unfold kfL
  by_cases h : kfB ep vs ss m = true
  · rw [if_pos h, List.length_reverse]
    unfold kfB at h
    simp only [Bool.and_eq_true] at h
    obtain ⟨l, hl⟩ := Option.isSome_iff_exists.1 h.2
    have := seatOf_leaf h.1 hl
    have e : leafV ss m = l := by unfold leafV; rw [hl]; rfl
    rw [e, keysOn_len this]
    exact Nat.le_refl _
  · rw [if_neg h]; simp
theorem none_keys (B : Nat) (w : World) : Keys B (.slice none 0 0) [] w := ⟨by simp [kcells], .inl ⟨rfl, rfl⟩⟩
theorem keys_since {B : Nat} {v : Value} {ks : List (Int × Int)} {W W' : World} (h : Keys B v ks W) (hb : Below W.heap.size W W') : Keys B v ks W' := h.below hb (fun k e => (h.lt k e).2)
theorem cell_key (W : World) (n v : Int) : ∀ j u, [Value.int .i64 n, Value.int .i64 v][j]? = some u → (W.alloc (.cells #[.int .i64 n, .int .i64 v] 38)).cell? ((⟨W.heap.size, 0, none⟩ : Addr).add j) = some u := by
  intro j u hu
  match j with
  | 0 => simp at hu; subst hu; simp [Addr.add]
  | 1 => simp at hu; subst hu; simp [Addr.add]
  | j + 2 => simp at hu
theorem keys_row {W : World} {B n : Nat} {v : Value} {ys : List Value} {xs : List (Int × Int)} (h : W.ownsRow B 38 2 v n ys) (e : ys = kcells xs) (hn : xs.length = n) : ∃ a c, v = .slice a n c ∧ Keys B (.slice a n c) xs W := by
  subst e hn
  obtain ⟨a, c, hv, _, _⟩ := Keys.row (show Keys B v xs W from h)
  subst hv
  exact ⟨a, c, rfl, h⟩

set_option maxRecDepth 100000 in
set_option maxHeartbeats 2000000 in
theorem keysFor_any {B C : Nat} {x y : Value} {vs : List Int} {ss : List (Int × Int)} {w : World} (ep m : Int) (hx : Ints B x vs w) (hy : Seats C y ss w) :
    Calls Try.prog 22 #[svv ep x y, .int .i64 m] w fun e w' => ∃ a c, e = .returned (.tuple #[.slice a (kfL ep vs ss m).length c, .bool (kfB ep vs ss m)]) ∧ Keys w.heap.size (.slice a (kfL ep vs ss m).length c) (kfL ep vs ss m) w' ∧ Below w.heap.size w w' := by
  obtain ⟨i0, hi, hz0, hz1, hz2⟩ := info_parts infoK
  have hB1 := one_below w (svb ep x y)
  obtain ⟨c0, c1, c2⟩ := scell3 w ep x y
  have X1 := hidOf' (hx.since hB1)
  have Y1 := hidOf' (hy.since hB1)
  obtain ⟨ax, cx, hvx, _, _⟩ := hx.row
  obtain ⟨ay, cy, hvy, _, _⟩ := hy.row
  subst hvx hvy
  clear hx hy
  go_enter Try.func22, Try.ntmps22
  go_wp2_with fail
  generalize w.alloc (svb ep (.slice ax vs.length cx) (.slice ay ss.length cy)) = w1 at *
  refine (serverOk_any ep X1.out Y1.out).mono ?_
  rintro e w2 ⟨rfl, b2⟩
  have B2 := hidOf' (more hB1 b2)
  have d0 := cell_since c0 b2
  have d1 := cell_since c1 b2
  have d2 := cell_since c2 b2
  have X2 := hidOf' (X1.out.since b2)
  have Y2 := hidOf' (Y1.out.since b2)
  clear c0 c1 c2 X1 Y1 hB1 b2
  cases hok : serverB ep vs ss with
  | false =>
    have hb : kfB ep vs ss m = false := by simp [kfB, hok]
    have HA := hidOf' (And.intro hb (kf_not hb))
    clear hb
    go_wp2
    obtain ⟨h1, h2⟩ := HA.out
    rw [h1, h2]
    exact bodyPost_ret (v := .tuple #[.slice none 0 0, .bool false]) (by simp [results, Try.results22, go_sem]) rfl ⟨none, 0, rfl, none_keys _ _, B2.out⟩
  | true =>
    go_wp2_with fail
    refine (leafOf_any ep m Y2.out).mono ?_
    rintro e w3 ⟨rfl, b3⟩
    have B3 := hidOf' (more B2.out b3)
    have d0 := cell_since d0 b3
    have d1 := cell_since d1 b3
    have d2 := cell_since d2 b3
    have X3 := hidOf' (X2.out.since b3)
    clear X2 Y2 B2 b3
    cases hse : seatOf ss m with
    | none =>
      have hb : kfB ep vs ss m = false := by simp [kfB, hse]
      have HA := hidOf' (And.intro hb (kf_not hb))
      clear hb
      simp only [Option.isSome_none]
      go_wp2
      obtain ⟨h1, h2⟩ := HA.out
      rw [h1, h2]
      exact bodyPost_ret (v := .tuple #[.slice none 0 0, .bool false]) (by simp [results, Try.results22, go_sem]) rfl ⟨none, 0, rfl, none_keys _ _, B3.out⟩
    | some lf =>
      have hb : kfB ep vs ss m = true := by simp [kfB, hok, hse]
      have hlv : leafV ss m = lf := by unfold leafV; rw [hse]; rfl
      have hlf := seatOf_leaf hok hse
      have HLen := hidOf' (serverB_len hok)
      have HA := hidOf' (And.intro hb (show kfL ep vs ss m = (keysOn vs lf).reverse by unfold kfL; rw [if_pos hb, hlv]))
      obtain ⟨hp4, hpr⟩ := path_four hlf.1 hlf.2
      have HPR := hidOf' hpr
      have HK4 := hidOf' (keysOn_len (vs := vs) hlf)
      clear hpr hb
      simp only [Option.isSome_some]
      rw [hlv]
      clear hlv hse hok
      go_wp2_with fail
      refine (pathOf_any lf _).mono ?_
      rintro e w4 ⟨vp, rfl, p4, b4⟩
      obtain ⟨ap, cp, hvp, _, hprow⟩ := p4.row
      rw [hp4] at hvp
      subst hvp
      have HPW := hidOf' hprow
      have B4 := hidOf' (more B3.out b4)
      have d0 := cell_since d0 b4
      have d1 := cell_since d1 b4
      have d2 := cell_since d2 b4
      have X4 := hidOf' (X3.out.since b4)
      clear X3 B3 b4 p4 hprow
      go_wp2
      go_loopw [8, 25] (fun kvv i wr => ∃ (k : Nat) (a : Option Addr) (c : Nat), kvv = .slice a k c ∧ i = .int .i64 (k : Int) ∧ k ≤ 4 ∧ Hid (Keys w4.heap.size (.slice a k c) ((keysOn vs lf).take k) wr) ∧ Below w4.heap.size w4 wr) (fun _ i _ => 4 - (intOf i).toNat)
      case atStart => exact ⟨0, none, 0, rfl, rfl, by omega, none_keys _ _, Below.refl _ _⟩
      case round =>
        obtain ⟨k, a, c, rfl, rfl, hk, HKs, hB⟩ := hrel
        have hkl : ((keysOn vs lf).take k).length = k := by rw [List.length_take, HK4.out]; omega
        by_cases hlt : k < 4
        · obtain ⟨g, ha, hg, hseg⟩ : ∃ g, ap = some ⟨g, 0, none⟩ ∧ g < w4.heap.size ∧ ISeg g 0 (path lf) w4 := by
            rcases HPW.out with e | e
            · rw [e] at hp4; simp at hp4
            · exact e
          subst ha
          have a1 := hseg k (by omega)
          simp only [Nat.zero_add] at a1
          have e1 := cell_since a1 hB
          have e2 := cell_since d0 hB
          have e3 := cell_since d1 hB
          have e4 := cell_since d2 hB
          have hkp : k < (path lf).length := by omega
          have HT := hidOf' (keysOn_at (vs := vs) k hkp)
          have hbn := HPR.out k hkp
          clear hseg a1
          obtain ⟨j, hj⟩ : ∃ j : Nat, (path lf)[k] = (j : Int) + 1 := ⟨((path lf)[k] - 1).toNat, by omega⟩
          rw [hj] at e1 HT hbn
          have hj15 : j < 15 := by omega
          have hjt : ((j : Int) + 1).toNat - 1 = j := by omega
          rw [hjt] at HT
          clear hj hjt
          go_wp2_with fail
          refine (keyAt_any ep j hj15 HLen.out (X4.out.since hB)).mono ?_
          rintro e w5 ⟨rfl, b5⟩
          have hB5 := hidOf' (hB.trans (b5.mono hB.size))
          have HK5 := hidOf' (keys_since HKs.out b5)
          have hne : ∀ jj, (Value.slice a k c).ownBlock = some jj → w4.heap.size ≤ jj := fun jj e => (HKs.out.lt jj e).1
          have hs5 := b5.size
          have hs4 := hB.size
          have HOwn : Hid ((w5.alloc (.cells #[.int .i64 ((j : Int) + 1), .int .i64 (vAt vs j)] 38)).ownsRow w4.heap.size 38 2 (.slice a k c) k (kcells ((keysOn vs lf).take k))) := by
            have := World.ownsRow.alloc HK5.out (.cells #[.int .i64 ((j : Int) + 1), .int .i64 (vAt vs j)] 38)
            rwa [hkl] at this
          clear b5 hB HKs HK5 e1 e2 e3 e4
          generalize hvj : vAt vs j = vj at *
          go_wp2_with (at_builtin; refine wpList_append_own _ rfl _ _ 43 rfl w4.heap.size 38 i0 (.agg #[.int .i64 0, .int .i64 0]) 2 16 Try.underlying43 hi hz0 hz1 hz2 rfl (by decide) _ _ _ rfl HOwn.out ⟨w5.heap.size, 0, none⟩ 1 1 [.int .i64 ((j : Int) + 1), .int .i64 vj] rfl rfl (cell_key _ _ _) (by simp [Value.oneCell']) (by unfold maxLen; omega) (by omega) (by simp <;> omega) ?_; intro v' w8 hown' hgrow _; obtain ⟨a8, c8, hv', hI'⟩ := keys_row (xs := (keysOn vs lf).take k ++ [((j : Int) + 1, vj)]) hown' (by rw [kcells_append]; rfl) (by simp [hkl]); subst hv'; have HI8 := hidOf' hI'; have HB8 : Hid (Below w4.heap.size w4 w8) := (hB5.out.alloc hB5.out.size _).grown hgrow (by simp <;> omega) (fun k e => by have := hne _ e; omega); clear hown' hI' hgrow hB5)
          go_roundw
          case rel => exact ⟨k + 1, a8, c8, by go_num, by go_num, by omega, (by show Keys _ _ _ _; rw [HT.out]; exact HI8.out), HB8.out⟩
          case measure => simp [intOf] <;> omega
        · obtain rfl : k = 4 := by omega
          have hKs := HKs.out
          rw [List.take_of_length_le (by rw [HK4.out]; exact Nat.le_refl _)] at hKs
          obtain ⟨g, ha⟩ : ∃ g, a = some ⟨g, 0, none⟩ := by
            rcases hKs.form with ⟨e, e'⟩ | ⟨g, cap, e, _⟩
            · cases e
            · injection e with e; exact ⟨g, e⟩
          subst ha
          obtain ⟨k0, k1, k2, k3, hL⟩ : ∃ k0 k1 k2 k3, keysOn vs lf = [k0, k1, k2, k3] := by
            have := HK4.out
            match hq : keysOn vs lf, this with
            | [a, b, c, d], _ => exact ⟨a, b, c, d, rfl⟩
          rw [hL] at hKs
          have HL := hidOf' hL
          have HKs' := hidOf' hKs
          have hgl := (hKs.lt g rfl).1
          clear hKs HKs hL hkl
          go_wp2_with fail
          refine (reverse4_any HKs'.out).mono ?_
          rintro e w6 ⟨rfl, k6, g6⟩
          have HB6 := hidOf' (more B4.out (hB.grown g6 hB.size (fun j e => by cases e; exact hgl)))
          have HK6 := hidOf' k6
          clear k6 g6 HKs'
          go_wp2
          obtain ⟨h1, h2⟩ := HA.out
          have hrev : kfL ep vs ss m = [k3, k2, k1, k0] := by rw [h2, HL.out]; rfl
          rw [h1, hrev]
          exact bodyPost_ret (v := .tuple #[.slice (some ⟨g, 0, none⟩) 4 c, .bool true]) (by simp [results, Try.results22, go_sem]) rfl ⟨some ⟨g, 0, none⟩, c, rfl, HK6.out.mono B4.out.size, HB6.out⟩
end Go.Proofs.Ytplinjepeahahaa
