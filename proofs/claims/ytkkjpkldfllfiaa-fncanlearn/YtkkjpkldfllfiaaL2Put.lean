
/- The contract of the model's l2Put: rising keys, with one more. -/
import Derived.Test.YtkkjpkldfllfiaaL2
import Derived.Test.YtkkjpkldfllfiaaNk
import Derived.Deep.MidRow
namespace Go.Proofs.Ytkkjpkldfllfiaa
open Go.RowKit

theorem infoKey : (Try.prog.info? 33).map (fun i => (i.zero, i.size, i.bytes)) = some (some (.agg #[.int .i64 0, .int .i64 0]), 2, 16) := by kernel_rfl
theorem KSeg.take {g off : Nat} {ks : List (Int × Int)} {W : World} (h : KSeg g off ks W) (n : Nat) : KSeg g off (ks.take n) W := fun i hi => by
  have hi' : i < ks.length := by simp at hi; omega
  have := h i hi'
  simpa using this
theorem KSeg.drop {g off : Nat} {ks : List (Int × Int)} {W : World} (h : KSeg g off ks W) (n : Nat) : KSeg g (off + n * 2) (ks.drop n) W := fun i hi => by
  have hi' : n + i < ks.length := by simp at hi; omega
  have := h (n + i) hi'
  have e : off + n * 2 + i * 2 = off + (n + i) * 2 := by omega
  rw [e]
  simpa using this

/-- How many are ahead of k, from the first on. -/
def aheadN (ks : List (Int × Int)) (x y : Int) : Nat := (ks.takeWhile fun k => aheadB k.1 k.2 x y).length
def putL (ks : List (Int × Int)) (x y : Int) : List (Int × Int) :=
  if ks[aheadN ks x y]? = some (x, y) then ks else ks.take (aheadN ks x y) ++ [(x, y)] ++ ks.drop (aheadN ks x y)
theorem aheadN_le (ks : List (Int × Int)) (x y : Int) : aheadN ks x y ≤ ks.length := (List.takeWhile_sublist _).length_le
theorem aheadN_eq (ks : List (Int × Int)) (x y : Int) : ∀ n, n ≤ ks.length → (∀ i (hi : i < ks.length), i < n → aheadB ks[i].1 ks[i].2 x y = true) → (∀ (h : n < ks.length), aheadB ks[n].1 ks[n].2 x y = false) → aheadN ks x y = n := by
  induction ks with
  | nil => intro n hn _ _; simp at hn; subst hn; rfl
  | cons k ks ih =>
    intro n hn h1 h2
    cases n with
    | zero =>
      have := h2 (by simp)
      simp at this
      simp [aheadN, this]
    | succ n =>
      have h0 := h1 0 (by simp) (by omega)
      simp at h0
      have := ih n (by simpa using hn) (fun i hi hin => by have := h1 (i + 1) (by simpa using hi) (by omega); simpa using this) (fun h => by have := h2 (by simpa using h); simpa using this)
      simp [aheadN, h0] at this ⊢
      exact this

theorem cell_two_new (w : World) (x y : Int) (t : TypeId) : ∀ j u, [Value.int .i64 x, .int .i64 y][j]? = some u → (w.alloc (.cells #[.int .i64 x, .int .i64 y] t)).cell? ((⟨w.heap.size, 0, none⟩ : Addr).add j) = some u := by
  intro j u hu
  rw [Addr.add_mid, Nat.zero_add]
  match j, hu with
  | 0, hu => simp at hu; subst hu; simp
  | 1, hu => simp at hu; subst hu; simp
theorem emptyK (w : World) (B : Nat) (h : B ≤ w.heap.size) : (w.alloc (.cells #[] 33)).ownsRow B 33 2 (.slice (some ⟨w.heap.size, 0, none⟩) 0 0) 0 [] := World.ownsRow_lit (base := B) (size := 2) w #[] 0 h (by decide) rfl
theorem KSeg.below {b off : Nat} {ks : List (Int × Int)} {W W' : World} (h : KSeg b off ks W) (hb : Below W.heap.size W W') (hlt : b < W.heap.size) : KSeg b off ks W' := h.kept (hb.block b hlt)

/-- Behind the first of l2Put's appends. -/
theorem put_a {w W wA : World} {g k : Nat} {x y : Int} {ks : List (Int × Int)} {v1 : Value} (hBW : Below w.heap.size w W)
    (hs : KSeg g 0 ks W) (f0 : W.cell? ⟨w.heap.size, 0, none⟩ = some (.int .i64 x)) (f1 : W.cell? ⟨w.heap.size, 1, none⟩ = some (.int .i64 y)) (hg : g < w.heap.size)
    (own1 : wA.ownsRow w.heap.size 33 2 v1 (0 + k) ([] ++ kcells (ks.take k))) (gr1 : (W.alloc (.cells #[] 33)).grownBy wA (Value.slice (some ⟨W.heap.size, 0, none⟩) 0 0).ownBlock) :
    wA.ownsRow w.heap.size 33 2 v1 k (kcells (ks.take k)) ∧ wA.cell? ⟨w.heap.size, 0, none⟩ = some (.int .i64 x) ∧ wA.cell? ⟨w.heap.size, 1, none⟩ = some (.int .i64 y) ∧ Hid (KSeg g 0 ks wA) ∧ w.heap.size ≤ wA.heap.size ∧ Hid (Below w.heap.size w wA) := by
  have hlt := World.block_lt_of_cell? _ _ f0
  have hsW := hBW.size
  have hs1 := gr1.size
  simp at hlt hs1
  have hne : ∀ (b : Nat), b < W.heap.size → some b ≠ (Value.slice (some ⟨W.heap.size, 0, none⟩) 0 0).ownBlock := fun b hb e => by simp [Value.ownBlock] at e; omega
  refine ⟨by simpa using own1, gr1.cell ((World.grownBy_alloc W _ none).cell f0 (by simp)) (hne _ hlt), gr1.cell ((World.grownBy_alloc W _ none).cell f1 (by simp)) (hne _ hlt), ?_, by omega, ?_⟩
  · exact hs.kept ((gr1.block g (by simp; omega) (hne g (by omega))).trans (Below.heap_alloc _ _ _ (by omega)))
  · exact (hBW.alloc hsW _).grown gr1 (by simp; omega) (fun j e => by simp [Value.ownBlock] at e; omega)
/-- Behind the second of them. -/
theorem put_b {w wA wB : World} {g k : Nat} {ks : List (Int × Int)} {v1 : Value} {o : Obj} (hB : Below w.heap.size w wA) (own1 : wA.ownsRow w.heap.size 33 2 v1 k (kcells (ks.take k)))
    (hs : KSeg g 0 ks wA) (hg : g < w.heap.size) (gr2 : (wA.alloc o).grownBy wB v1.ownBlock) : Hid (KSeg g 0 ks wB) ∧ w.heap.size ≤ wB.heap.size ∧ Hid (Below w.heap.size w wB) := by
  have hsA := hB.size
  have hs2 := gr2.size
  simp at hs2
  refine ⟨?_, by omega, ?_⟩
  · exact hs.kept ((gr2.block g (by simp; omega) (fun e => by have := (World.ownsRow.lt own1 g e.symm).1; omega)).trans (Below.heap_alloc _ _ _ (by omega)))
  · exact (hB.alloc hsA _).grown gr2 (by simp; omega) (fun j e => (World.ownsRow.lt own1 j e).1)

set_option maxRecDepth 100000 in
set_option maxHeartbeats 1000000 in
theorem l2Put_row (g c : Nat) (ks : List (Int × Int)) (x y : Int) (w : World) (hc : ks.length ≤ c) (hm : ks.length ≤ 100000) (hg : g < w.heap.size) (h1 : KSeg g 0 ks w) :
    Calls Try.prog 85 #[.slice (some ⟨g, 0, none⟩) ks.length c, kv x y] w fun e w' => ∃ v, e = .returned v ∧ v ≠ .slice none 0 0 ∧ Keys w.heap.size v (putL ks x y) w' ∧ Below w.heap.size w w' := by
  obtain ⟨i0, hi, hz0, hz1, hz2⟩ := info_parts infoKey
  generalize hn : ks.length = n at hm hc ⊢
  have hB1 := one_below w (kb x y)
  have b0 : (w.alloc (kb x y)).cell? ⟨w.heap.size, 0, none⟩ = some (.int .i64 x) := by simp
  have b1 : (w.alloc (kb x y)).cell? ⟨w.heap.size, 1, none⟩ = some (.int .i64 y) := by simp
  have hsz1 : (w.alloc (kb x y)).heap.size = w.heap.size + 1 := by simp
  go_enter Try.func85, Try.ntmps85
  go_wp2
  generalize w.alloc (kb x y) = w1 at hB1 b0 b1 hsz1 ⊢
  go_loopw [5] (fun i wr => ∃ k : Nat, k ≤ n ∧ i = .int .i64 k ∧ (∀ i (hi : i < ks.length), i < k → aheadB ks[i].1 ks[i].2 x y = true) ∧ Below w1.heap.size w1 wr) (fun i _ => n - (intOf i).toNat)
  case atStart => exact ⟨0, Nat.zero_le _, rfl, fun _ _ h => absurd h (Nat.not_lt_zero _), Below.refl _ _⟩
  case round =>
    obtain ⟨k, hk, rfl, hpre, hB⟩ := hrel
    have HP : Hid (∀ i (hi : i < ks.length), i < k → aheadB ks[i].1 ks[i].2 x y = true) := hpre
    have H1 : Hid (KSeg g 0 ks w) := h1
    clear hpre h1
    have hsz := hB.size
    have e0 := cell_since b0 hB
    have e1 := cell_since b1 hB
    by_cases hlt : k < n
    · have hlk : k < ks.length := by omega
      obtain ⟨a1, a2⟩ := H1.out k hlk
      simp only [Nat.zero_add] at a1 a2
      have c1 : wr.cell? ⟨g, k * 2, none⟩ = some (.int .i64 ks[k].1) := cell_since (cell_since a1 hB1) hB
      have c2 : wr.cell? ⟨g, k * 2 + 1, none⟩ = some (.int .i64 ks[k].2) := cell_since (cell_since a2 hB1) hB
      clear a1 a2
      obtain ⟨u, v, hK⟩ : ∃ u v, ks[k] = (u, v) := ⟨_, _, rfl⟩
      rw [hK] at c1 c2
      have HK : Hid (ks[k] = (u, v)) := hK
      clear hK
      have hS0 : Cs4 w1 ⟨g, k * 2, none⟩ (.int .i64 u) ⟨g, k * 2 + 1, none⟩ (.int .i64 v) ⟨w.heap.size, 0, none⟩ (.int .i64 x) ⟨w.heap.size, 1, none⟩ (.int .i64 y) wr.drew := ⟨c1, c2, e0, e1, hB.drew⟩
      have hSN := SW.some hS0
      have s1 := fun s : SW (Cs4 w1 ⟨g, k * 2, none⟩ (.int .i64 u) ⟨g, k * 2 + 1, none⟩ (.int .i64 v) ⟨w.heap.size, 0, none⟩ (.int .i64 x) ⟨w.heap.size, 1, none⟩ (.int .i64 y)) => s.is.1
      have s2 := fun s : SW (Cs4 w1 ⟨g, k * 2, none⟩ (.int .i64 u) ⟨g, k * 2 + 1, none⟩ (.int .i64 v) ⟨w.heap.size, 0, none⟩ (.int .i64 x) ⟨w.heap.size, 1, none⟩ (.int .i64 y)) => s.is.2.1
      have s3 := fun s : SW (Cs4 w1 ⟨g, k * 2, none⟩ (.int .i64 u) ⟨g, k * 2 + 1, none⟩ (.int .i64 v) ⟨w.heap.size, 0, none⟩ (.int .i64 x) ⟨w.heap.size, 1, none⟩ (.int .i64 y)) => s.is.2.2.1
      have s4 := fun s : SW (Cs4 w1 ⟨g, k * 2, none⟩ (.int .i64 u) ⟨g, k * 2 + 1, none⟩ (.int .i64 v) ⟨w.heap.size, 0, none⟩ (.int .i64 x) ⟨w.heap.size, 1, none⟩ (.int .i64 y)) => s.is.2.2.2.1
      go_wp2
      refine wp_region_S (Cs4 w1 ⟨g, k * 2, none⟩ (.int .i64 u) ⟨g, k * 2 + 1, none⟩ (.int .i64 v) ⟨w.heap.size, 0, none⟩ (.int .i64 x) ⟨w.heap.size, 1, none⟩ (.int .i64 y)) (by kernel_rfl) (by kernel_rfl) hS0 ?_
      repeat (go_big_quiet_step ((rename_i s0; go_at_call 57; refine (specAheadK u v x y _).mono ?_; rintro e w' ⟨rfl, hb⟩; exact ⟨rfl, SW.of (s0.is.later hb)⟩)))
      refine wpQuiet_nil ?_
      rintro _ ⟨s, rfl⟩
      have hBf := s.is.2.2.2.2
      have f0 := s.is.2.2.1
      have f1 := s.is.2.2.2.1
      have f2 := s.is.1
      have f3 := s.is.2.1
      generalize s.w = W at hBf f0 f1 f2 f3 ⊢
      clear hS0 hSN s1 s2 s3 s4 c1 c2 e0 e1 s hB hsz
      cases hah : aheadB u v x y with
      | true =>
        go_wp2
        go_roundw
        case rel =>
          refine ⟨k + 1, by omega, by go_num, fun j hj hjk => ?_, hBf⟩
          by_cases e : j = k
          · subst e; rw [HK.out]; exact hah
          · exact HP.out j hj (by omega)
        case measure => simp [intOf]; omega
      | false =>
        have hN : aheadN ks x y = k := aheadN_eq ks x y k (by omega) HP.out (fun h => by rw [HK.out]; exact hah)
        by_cases huv : u = x ∧ v = y
        · obtain ⟨rfl, rfl⟩ := huv
          have hpe : Hid (putL ks u v = ks) := by
            show putL ks u v = ks
            unfold putL
            rw [hN, if_pos]
            rw [List.getElem?_eq_getElem hlk, HK.out]
          clear hN
          go_wp2
          go_quiet (fail)
          have hBf2 : Below w1.heap.size w1 (W.drewN nq) := below_drewN hBf nq
          generalize W.drewN nq = W2 at hBf2 ⊢
          clear hBf f0 f1 f2 f3
          have hseg : KSeg g 0 ks W2 := (H1.out.below hB1 hg).below hBf2 (by omega)
          have hsW := hBf2.size
          have hBW : Below w.heap.size w W2 := hB1.trans (hBf2.mono (by omega))
          have hE := emptyK W2 w.heap.size (by omega)
          have hsE : KSeg g 0 ks (W2.alloc (.cells #[] 33)) := hseg.below (one_below _ _) (by omega)
          have HSE : Hid (KSeg g 0 ks (W2.alloc (.cells #[] 33))) := hsE
          clear hseg hsE
          go_wp2_with (at_builtin; refine wpList_append_own _ rfl _ _ 24 rfl w.heap.size 33 i0 (.agg #[.int .i64 0, .int .i64 0]) 2 16 Try.underlying24 hi hz0 hz1 hz2 rfl (by decide) (.slice (some ⟨W2.heap.size, 0, none⟩) 0 0) 0 [] rfl hE ⟨g, 0, none⟩ n c (kcells ks) rfl (by rw [kcells_length, hn]) (news_keys HSE.out) (one_kcells _) (by unfold maxLen; omega) (by omega) (by simp; omega) ?_; intro v1 wA own1 gr1 nil1)
          go_ret
          refine ⟨v1, rfl, fun e => ?_, ?_, ?_⟩
          · have := (nil1.1 e).1
            cases this
          · rw [hpe.out]
            unfold Keys
            rw [hn]
            simpa using own1
          · exact (hBW.alloc (by omega) _).grown gr1 (by simp; omega) (fun j e => by simp [Value.ownBlock] at e; omega)
        · have hne : Hid (putL ks x y = ks.take k ++ [(x, y)] ++ ks.drop k) := by
            show putL ks x y = _
            unfold putL
            rw [hN, if_neg]
            intro h
            rw [List.getElem?_eq_getElem hlk, HK.out] at h
            simp at h
            exact huv h
          clear hN
          by_cases hu : u = x
          · have hv : (v == y) = false := by
              have : ¬ v = y := fun e => huv ⟨hu, e⟩
              simpa using this
            subst hu
            go_wp2
            go_quiet (fail)
            have hBf2 : Below w1.heap.size w1 (W.drewN nq) := below_drewN hBf nq
            have f02 : (W.drewN nq).cell? ⟨w.heap.size, 0, none⟩ = some (.int .i64 u) := f0
            have f12 : (W.drewN nq).cell? ⟨w.heap.size, 1, none⟩ = some (.int .i64 y) := f1
            generalize W.drewN nq = W2 at hBf2 f02 f12 ⊢
            clear hBf f0 f1 f2 f3
            have hseg : KSeg g 0 ks W2 := (H1.out.below hB1 hg).below hBf2 (by omega)
            have hsW := hBf2.size
            have hBW : Below w.heap.size w W2 := hB1.trans (hBf2.mono (by omega))
            have hE := emptyK W2 w.heap.size (by omega)
            have hsE : KSeg g 0 (ks.take k) (W2.alloc (.cells #[] 33)) := (hseg.take k).below (one_below _ _) (by omega)
            have tokA : True := trivial
            have tokB : True := trivial
            have HSG : Hid (KSeg g 0 ks W2) := hseg
            have HSE : Hid (KSeg g 0 (ks.take k) (W2.alloc (.cells #[] 33))) := hsE
            have htl : (ks.take k).length = k := by simp; omega
            have HTL : Hid ((ks.take k).length = k) := htl
            clear hseg hsE htl
            go_wp2_with (first
              | (at_builtin; have _t := tokA; clear _t tokA; refine wpList_append_own _ rfl _ _ 24 rfl w.heap.size 33 i0 (.agg #[.int .i64 0, .int .i64 0]) 2 16 Try.underlying24 hi hz0 hz1 hz2 rfl (by decide) (.slice (some ⟨W2.heap.size, 0, none⟩) 0 0) 0 [] rfl hE ⟨g, 0, none⟩ k c (kcells (ks.take k)) rfl (by rw [kcells_length, HTL.out]) (news_keys HSE.out) (one_kcells _) (by unfold maxLen; omega) (by omega) (by simp; omega) ?_; intro v1 wA own1 gr1 nil1; obtain ⟨own1', g0, g1, HSA, hszA, HBA⟩ := put_a hBW HSG.out f02 f12 hg own1 gr1)
              | (at_builtin; have _t := tokB; clear _t tokB; refine wpList_append_own _ rfl _ _ 24 rfl w.heap.size 33 i0 (.agg #[.int .i64 0, .int .i64 0]) 2 16 Try.underlying24 hi hz0 hz1 hz2 rfl (by decide) v1 k (kcells (ks.take k)) rfl (World.ownsRow.alloc own1' _) ⟨wA.heap.size, 0, none⟩ 1 1 [.int .i64 u, .int .i64 y] rfl rfl (cell_two_new _ _ _ _) (by simp [Value.oneCell']) (by unfold maxLen; omega) (by omega) (by simp; omega) ?_; intro v2 wB own2 gr2 nil2; obtain ⟨HSB, hszB, HBB⟩ := put_b HBA.out own1' HSA.out hg gr2)
              | (at_builtin; refine wpList_append_own _ rfl _ _ 24 rfl w.heap.size 33 i0 (.agg #[.int .i64 0, .int .i64 0]) 2 16 Try.underlying24 hi hz0 hz1 hz2 rfl (by decide) v2 (k + 1) _ rfl own2 ⟨g, k * 2, none⟩ (n - k) (c - k) (kcells (ks.drop k)) rfl ?l1 ?l2 (one_kcells _) (by unfold maxLen; omega) (by omega) (by omega) ?_; rotate_left 2; intro v3 wC own3 gr3 nil3))
            case l1 => rw [kcells_length]; simp; omega
            case l2 => exact news_keys (by have := HSB.out.drop k; simpa using this)
            go_ret
            refine ⟨v3, rfl, fun e => ?_, ?_, ?_⟩
            · have := (nil3.1 e).1
              have := (nil2.1 this).2
              omega
            · rw [hne.out]
              unfold Keys
              have e1 : (ks.take k ++ [(u, y)] ++ ks.drop k).length = k + 1 + (n - k) := by simp; omega
              rw [e1, kcells_append, kcells_append]
              exact own3
            · exact HBB.out.grown gr3 hszB (fun j e => (World.ownsRow.lt own2 j e).1)
          · have hu' : (u == x) = false := by simpa using hu
            go_wp2
            go_quiet (fail)
            have hBf2 : Below w1.heap.size w1 (W.drewN nq) := below_drewN hBf nq
            have f02 : (W.drewN nq).cell? ⟨w.heap.size, 0, none⟩ = some (.int .i64 x) := f0
            have f12 : (W.drewN nq).cell? ⟨w.heap.size, 1, none⟩ = some (.int .i64 y) := f1
            generalize W.drewN nq = W2 at hBf2 f02 f12 ⊢
            clear hBf f0 f1 f2 f3
            have hseg : KSeg g 0 ks W2 := (H1.out.below hB1 hg).below hBf2 (by omega)
            have hsW := hBf2.size
            have hBW : Below w.heap.size w W2 := hB1.trans (hBf2.mono (by omega))
            have hE := emptyK W2 w.heap.size (by omega)
            have hsE : KSeg g 0 (ks.take k) (W2.alloc (.cells #[] 33)) := (hseg.take k).below (one_below _ _) (by omega)
            have tokA : True := trivial
            have tokB : True := trivial
            have HSG : Hid (KSeg g 0 ks W2) := hseg
            have HSE : Hid (KSeg g 0 (ks.take k) (W2.alloc (.cells #[] 33))) := hsE
            have htl : (ks.take k).length = k := by simp; omega
            have HTL : Hid ((ks.take k).length = k) := htl
            clear hseg hsE htl
            go_wp2_with (first
              | (at_builtin; have _t := tokA; clear _t tokA; refine wpList_append_own _ rfl _ _ 24 rfl w.heap.size 33 i0 (.agg #[.int .i64 0, .int .i64 0]) 2 16 Try.underlying24 hi hz0 hz1 hz2 rfl (by decide) (.slice (some ⟨W2.heap.size, 0, none⟩) 0 0) 0 [] rfl hE ⟨g, 0, none⟩ k c (kcells (ks.take k)) rfl (by rw [kcells_length, HTL.out]) (news_keys HSE.out) (one_kcells _) (by unfold maxLen; omega) (by omega) (by simp; omega) ?_; intro v1 wA own1 gr1 nil1; obtain ⟨own1', g0, g1, HSA, hszA, HBA⟩ := put_a hBW HSG.out f02 f12 hg own1 gr1)
              | (at_builtin; have _t := tokB; clear _t tokB; refine wpList_append_own _ rfl _ _ 24 rfl w.heap.size 33 i0 (.agg #[.int .i64 0, .int .i64 0]) 2 16 Try.underlying24 hi hz0 hz1 hz2 rfl (by decide) v1 k (kcells (ks.take k)) rfl (World.ownsRow.alloc own1' _) ⟨wA.heap.size, 0, none⟩ 1 1 [.int .i64 x, .int .i64 y] rfl rfl (cell_two_new _ _ _ _) (by simp [Value.oneCell']) (by unfold maxLen; omega) (by omega) (by simp; omega) ?_; intro v2 wB own2 gr2 nil2; obtain ⟨HSB, hszB, HBB⟩ := put_b HBA.out own1' HSA.out hg gr2)
              | (at_builtin; refine wpList_append_own _ rfl _ _ 24 rfl w.heap.size 33 i0 (.agg #[.int .i64 0, .int .i64 0]) 2 16 Try.underlying24 hi hz0 hz1 hz2 rfl (by decide) v2 (k + 1) _ rfl own2 ⟨g, k * 2, none⟩ (n - k) (c - k) (kcells (ks.drop k)) rfl ?l1 ?l2 (one_kcells _) (by unfold maxLen; omega) (by omega) (by omega) ?_; rotate_left 2; intro v3 wC own3 gr3 nil3))
            case l1 => rw [kcells_length]; simp; omega
            case l2 => exact news_keys (by have := HSB.out.drop k; simpa using this)
            go_ret
            refine ⟨v3, rfl, fun e => ?_, ?_, ?_⟩
            · have := (nil3.1 e).1
              have := (nil2.1 this).2
              omega
            · rw [hne.out]
              unfold Keys
              have e1 : (ks.take k ++ [(x, y)] ++ ks.drop k).length = k + 1 + (n - k) := by simp; omega
              rw [e1, kcells_append, kcells_append]
              exact own3
            · exact HBB.out.grown gr3 hszB (fun j e => (World.ownsRow.lt own2 j e).1)
    · have hke : k = n := by omega
      have hN : aheadN ks x y = k := aheadN_eq ks x y k (by omega) HP.out (fun h => by omega)
      have hne : Hid (putL ks x y = ks.take k ++ [(x, y)] ++ ks.drop k) := by
        show putL ks x y = _
        unfold putL
        rw [hN, if_neg]
        intro h
        rw [List.getElem?_eq_none (by omega)] at h
        cases h
      clear hN
      have hkd : decide ((k : Int) < (n : Int)) = false := decide_eq_false (by omega)
      clear hke
      go_wp2
      go_quiet (fail)
      have hBf : Below w1.heap.size w1 (wr.drewN nq) := below_drewN hB nq
      have f0 : (wr.drewN nq).cell? ⟨w.heap.size, 0, none⟩ = some (.int .i64 x) := e0
      have f1 : (wr.drewN nq).cell? ⟨w.heap.size, 1, none⟩ = some (.int .i64 y) := e1
      generalize wr.drewN nq = W at hBf f0 f1 ⊢
      clear hB e0 e1
      go_wp2
      go_quiet (fail)
      by_cases hck : c = k
      · have hck' : (c = k) = True := eq_true hck
        have HCK : Hid (c = k) := hck
        clear hck
        have hBf2 : Below w1.heap.size w1 (W.drewN nq) := below_drewN hBf nq
        have f02 : (W.drewN nq).cell? ⟨w.heap.size, 0, none⟩ = some (.int .i64 x) := f0
        have f12 : (W.drewN nq).cell? ⟨w.heap.size, 1, none⟩ = some (.int .i64 y) := f1
        generalize W.drewN nq = W2 at hBf2 f02 f12 ⊢
        clear hBf f0 f1
        have hseg : KSeg g 0 ks W2 := (H1.out.below hB1 hg).below hBf2 (by omega)
        have hsW := hBf2.size
        have hBW : Below w.heap.size w W2 := hB1.trans (hBf2.mono (by omega))
        have hE := emptyK W2 w.heap.size (by omega)
        have hsE : KSeg g 0 (ks.take k) (W2.alloc (.cells #[] 33)) := (hseg.take k).below (one_below _ _) (by omega)
        have tokA : True := trivial
        have tokB : True := trivial
        have HSG : Hid (KSeg g 0 ks W2) := hseg
        have HSE : Hid (KSeg g 0 (ks.take k) (W2.alloc (.cells #[] 33))) := hsE
        have htl : (ks.take k).length = k := by simp; omega
        have HTL : Hid ((ks.take k).length = k) := htl
        clear hseg hsE htl
        go_wp2_with (first
          | (at_builtin; have _t := tokA; clear _t tokA; refine wpList_append_own _ rfl _ _ 24 rfl w.heap.size 33 i0 (.agg #[.int .i64 0, .int .i64 0]) 2 16 Try.underlying24 hi hz0 hz1 hz2 rfl (by decide) (.slice (some ⟨W2.heap.size, 0, none⟩) 0 0) 0 [] rfl hE ⟨g, 0, none⟩ k c (kcells (ks.take k)) rfl (by rw [kcells_length, HTL.out]) (news_keys HSE.out) (one_kcells _) (by unfold maxLen; omega) (by omega) (by simp; omega) ?_; intro v1 wA own1 gr1 nil1; obtain ⟨own1', g0, g1, HSA, hszA, HBA⟩ := put_a hBW HSG.out f02 f12 hg own1 gr1)
          | (at_builtin; have _t := tokB; clear _t tokB; refine wpList_append_own _ rfl _ _ 24 rfl w.heap.size 33 i0 (.agg #[.int .i64 0, .int .i64 0]) 2 16 Try.underlying24 hi hz0 hz1 hz2 rfl (by decide) v1 k (kcells (ks.take k)) rfl (World.ownsRow.alloc own1' _) ⟨wA.heap.size, 0, none⟩ 1 1 [.int .i64 x, .int .i64 y] rfl rfl (cell_two_new _ _ _ _) (by simp [Value.oneCell']) (by unfold maxLen; omega) (by omega) (by simp; omega) ?_; intro v2 wB own2 gr2 nil2; obtain ⟨HSB, hszB, HBB⟩ := put_b HBA.out own1' HSA.out hg gr2)
          | (at_builtin; refine wpList_append_own _ rfl _ _ 24 rfl w.heap.size 33 i0 (.agg #[.int .i64 0, .int .i64 0]) 2 16 Try.underlying24 hi hz0 hz1 hz2 rfl (by decide) v2 (k + 1) _ rfl own2 ⟨g, 0, none⟩ (n - k) (c - k) (kcells (ks.drop k)) rfl ?l1 ?l2 (one_kcells _) (by unfold maxLen; omega) (by omega) (by omega) ?_; rotate_left 2; intro v3 wC own3 gr3 nil3))
        case l1 => rw [kcells_length]; simp; omega
        case l2 => rw [List.drop_eq_nil_of_le (by omega)]; exact fun j u hu => by simp [kcells] at hu
        go_ret
        refine ⟨v3, rfl, fun e => ?_, ?_, ?_⟩
        · have := (nil3.1 e).1
          have := (nil2.1 this).2
          omega
        · rw [hne.out]
          unfold Keys
          have e1 : (ks.take k ++ [(x, y)] ++ ks.drop k).length = k + 1 + (n - k) := by simp; omega
          rw [e1, kcells_append, kcells_append]
          exact own3
        · exact HBB.out.grown gr3 hszB (fun j e => (World.ownsRow.lt own2 j e).1)
      · have hck' : (c = k) = False := eq_false hck
        have hBf2 : Below w1.heap.size w1 (W.drewN nq) := below_drewN hBf nq
        have f02 : (W.drewN nq).cell? ⟨w.heap.size, 0, none⟩ = some (.int .i64 x) := f0
        have f12 : (W.drewN nq).cell? ⟨w.heap.size, 1, none⟩ = some (.int .i64 y) := f1
        generalize W.drewN nq = W2 at hBf2 f02 f12 ⊢
        clear hBf f0 f1
        have hseg : KSeg g 0 ks W2 := (H1.out.below hB1 hg).below hBf2 (by omega)
        have hsW := hBf2.size
        have hBW : Below w.heap.size w W2 := hB1.trans (hBf2.mono (by omega))
        have hE := emptyK W2 w.heap.size (by omega)
        have hsE : KSeg g 0 (ks.take k) (W2.alloc (.cells #[] 33)) := (hseg.take k).below (one_below _ _) (by omega)
        have tokA : True := trivial
        have tokB : True := trivial
        have HSG : Hid (KSeg g 0 ks W2) := hseg
        have HSE : Hid (KSeg g 0 (ks.take k) (W2.alloc (.cells #[] 33))) := hsE
        have htl : (ks.take k).length = k := by simp; omega
        have HTL : Hid ((ks.take k).length = k) := htl
        clear hseg hsE htl
        go_wp2_with (first
          | (at_builtin; have _t := tokA; clear _t tokA; refine wpList_append_own _ rfl _ _ 24 rfl w.heap.size 33 i0 (.agg #[.int .i64 0, .int .i64 0]) 2 16 Try.underlying24 hi hz0 hz1 hz2 rfl (by decide) (.slice (some ⟨W2.heap.size, 0, none⟩) 0 0) 0 [] rfl hE ⟨g, 0, none⟩ k c (kcells (ks.take k)) rfl (by rw [kcells_length, HTL.out]) (news_keys HSE.out) (one_kcells _) (by unfold maxLen; omega) (by omega) (by simp; omega) ?_; intro v1 wA own1 gr1 nil1; obtain ⟨own1', g0, g1, HSA, hszA, HBA⟩ := put_a hBW HSG.out f02 f12 hg own1 gr1)
          | (at_builtin; have _t := tokB; clear _t tokB; refine wpList_append_own _ rfl _ _ 24 rfl w.heap.size 33 i0 (.agg #[.int .i64 0, .int .i64 0]) 2 16 Try.underlying24 hi hz0 hz1 hz2 rfl (by decide) v1 k (kcells (ks.take k)) rfl (World.ownsRow.alloc own1' _) ⟨wA.heap.size, 0, none⟩ 1 1 [.int .i64 x, .int .i64 y] rfl rfl (cell_two_new _ _ _ _) (by simp [Value.oneCell']) (by unfold maxLen; omega) (by omega) (by simp; omega) ?_; intro v2 wB own2 gr2 nil2; obtain ⟨HSB, hszB, HBB⟩ := put_b HBA.out own1' HSA.out hg gr2)
          | (at_builtin; refine wpList_append_own _ rfl _ _ 24 rfl w.heap.size 33 i0 (.agg #[.int .i64 0, .int .i64 0]) 2 16 Try.underlying24 hi hz0 hz1 hz2 rfl (by decide) v2 (k + 1) _ rfl own2 ⟨g, k * 2, none⟩ (n - k) (c - k) (kcells (ks.drop k)) rfl ?l1 ?l2 (one_kcells _) (by unfold maxLen; omega) (by omega) (by omega) ?_; rotate_left 2; intro v3 wC own3 gr3 nil3))
        case l1 => rw [kcells_length]; simp; omega
        case l2 => exact news_keys (by have := HSB.out.drop k; simpa using this)
        go_ret
        refine ⟨v3, rfl, fun e => ?_, ?_, ?_⟩
        · have := (nil3.1 e).1
          have := (nil2.1 this).2
          omega
        · rw [hne.out]
          unfold Keys
          have e1 : (ks.take k ++ [(x, y)] ++ ks.drop k).length = k + 1 + (n - k) := by simp; omega
          rw [e1, kcells_append, kcells_append]
          exact own3
        · exact HBB.out.grown gr3 hszB (fun j e => (World.ownsRow.lt own2 j e).1)
end Go.Proofs.Ytkkjpkldfllfiaa
