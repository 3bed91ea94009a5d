
/- Windows of numbers: what a right one is, its bits, and what accepting a number makes of it (mathematics alone). -/
import Derived.Laws.BitsAllLaws
namespace Go.Proofs.Ythfgiabkafdbdaa.Wn

/-- Numbers that rise. -/
def Up (l : List Int) : Prop := l.Pairwise (· < ·)
theorem Up.eq : ∀ {a b : List Int}, Up a → Up b → (∀ x, x ∈ a ↔ x ∈ b) → a = b
  | [], [], _, _, _ => rfl
  | [], y :: b, _, _, h => by have := (h y).2 (by simp); simp at this
  | x :: a, [], _, _, h => by have := (h x).1 (by simp); simp at this
  | x :: a, y :: b, ha, hb, h => by
    have ha' := List.pairwise_cons.1 ha
    have hb' := List.pairwise_cons.1 hb
    have e : x = y := by
      have h1 := (h x).1 (by simp)
      have h2 := (h y).2 (by simp)
      rcases List.mem_cons.1 h1 with e | e
      · exact e
      · rcases List.mem_cons.1 h2 with e' | e'
        · exact e'.symm
        · have := hb'.1 x e
          have := ha'.1 y e'
          omega
    subst e
    refine congrArg (x :: ·) (Up.eq ha'.2 hb'.2 fun z => ⟨fun m => ?_, fun m => ?_⟩)
    · rcases List.mem_cons.1 ((h z).1 (List.mem_cons_of_mem _ m)) with e | e
      · subst e; have := ha'.1 z m; omega
      · exact e
    · rcases List.mem_cons.1 ((h z).2 (List.mem_cons_of_mem _ m)) with e | e
      · subst e; have := hb'.1 z m; omega
      · exact e
theorem Up.push {l : List Int} (h : Up l) {n : Int} (hn : ∀ x ∈ l, x < n) : Up (l ++ [n]) :=
  List.pairwise_append.2 ⟨h, by simp, fun x hx y hy => by rw [List.mem_singleton.1 hy]; exact hn x hx⟩
theorem Up.take {l : List Int} (h : Up l) (k : Nat) : Up (l.take k) := List.Pairwise.sublist (List.take_sublist _ _) h
theorem Up.get {l : List Int} (h : Up l) {i j : Nat} (hi : i < j) (hj : j < l.length) : l[i] < l[j] := (List.pairwise_iff_getElem.1 h) i j (by omega) hj hi

/-- The number at a place. -/
def wAt (xs : List Int) (i : Nat) : Int := xs.getD i 0
theorem wAt_get (xs : List Int) (i : Nat) (h : i < xs.length) : wAt xs i = xs[i] := by simp [wAt, h]
def okAt (top : Int) (xs : List Int) (i : Nat) : Prop := 1 ≤ wAt xs i ∧ top - 32 < wAt xs i ∧ (i = 0 ∨ wAt xs (i - 1) < wAt xs i)

/-- A right window. -/
def WinOk (top : Int) (xs : List Int) : Prop :=
  (top = 0 ∧ xs = []) ∨ (1 ≤ top ∧ top ≤ 1000000000 ∧ Up xs ∧ (∀ x ∈ xs, 1 ≤ x ∧ top - 32 < x ∧ x ≤ top) ∧ top ∈ xs)
def windowB (top : Int) (xs : List Int) : Bool := decide ((top = 0 ∧ xs = []) ∨ (1 ≤ top ∧ top ≤ 1000000000 ∧ List.Pairwise (· < ·) xs ∧ (∀ x ∈ xs, 1 ≤ x ∧ top - 32 < x ∧ x ≤ top) ∧ top ∈ xs))
theorem windowB_true {top : Int} {xs : List Int} (h : WinOk top xs) : windowB top xs = true := by unfold windowB; exact decide_eq_true h
theorem windowB_false {top : Int} {xs : List Int} (h : ¬ WinOk top xs) : windowB top xs = false := by unfold windowB; exact decide_eq_false h
theorem windowB_ok {top : Int} {xs : List Int} (h : windowB top xs = true) : WinOk top xs := by unfold windowB at h; have h' := of_decide_eq_true h; exact h'
theorem windowB_not {top : Int} {xs : List Int} (h : windowB top xs = false) : ¬ WinOk top xs := by unfold windowB at h; have h' := of_decide_eq_false h; exact h'

theorem up_of_ok {top : Int} {xs : List Int} (h : ∀ i, i < xs.length → okAt top xs i) : Up xs := by
  refine List.pairwise_iff_getElem.2 fun i j hi hj hij => ?_
  have step : ∀ d, ∀ i, (hi : i + d + 1 < xs.length) → xs[i] < xs[i + d + 1] := by
    intro d
    induction d with
    | zero =>
      intro i hi
      have := (h (i + 1) hi).2.2
      rw [wAt_get _ _ hi, Nat.add_sub_cancel, wAt_get _ _ (by omega)] at this
      rcases this with e | e
      · omega
      · exact e
    | succ d ih =>
      intro i hi
      have h1 := ih i (by omega)
      have := (h (i + d + 1 + 1) (by omega)).2.2
      rw [Nat.add_sub_cancel, wAt_get _ (i + d + 1 + 1) (by omega), wAt_get _ (i + d + 1) (by omega)] at this
      rcases this with e | e
      · omega
      · exact Int.lt_trans h1 e
  obtain ⟨d, rfl⟩ : ∃ d, j = i + d + 1 := ⟨j - i - 1, by omega⟩
  exact step d i hj
theorem WinOk.of {top : Int} {xs : List Int} (h1 : 1 ≤ top) (h2 : top ≤ 1000000000) (hn : xs.length ≠ 0) (h : ∀ i, i < xs.length → okAt top xs i) (hl : wAt xs (xs.length - 1) = top) : WinOk top xs := by
  have hu := up_of_ok h
  have hl' : xs[xs.length - 1]'(by omega) = top := by rw [← wAt_get]; exact hl
  refine .inr ⟨h1, h2, hu, fun x hx => ?_, ?_⟩
  · obtain ⟨i, hi, rfl⟩ := List.getElem_of_mem hx
    have := h i hi
    unfold okAt at this
    rw [wAt_get _ _ hi] at this
    refine ⟨this.1, this.2.1, ?_⟩
    by_cases e : i = xs.length - 1
    · subst e; omega
    · have := hu.get (i := i) (j := xs.length - 1) (by omega) (by omega)
      omega
  · rw [← hl']; exact List.getElem_mem _
theorem WinOk.back {top : Int} {xs : List Int} (h : WinOk top xs) (h0 : top ≠ 0) : 1 ≤ top ∧ top ≤ 1000000000 ∧ xs.length ≠ 0 ∧ (∀ i, i < xs.length → okAt top xs i ∧ wAt xs i ≤ top) ∧ wAt xs (xs.length - 1) = top := by
  rcases h with ⟨e, _⟩ | ⟨h1, h2, hu, hm, ht⟩
  · exact absurd e h0
  · have hl : xs.length ≠ 0 := fun e => by rw [List.length_eq_zero_iff.1 e] at ht; simp at ht
    refine ⟨h1, h2, hl, fun i hi => ?_, ?_⟩
    · unfold okAt
      rw [wAt_get _ _ hi]
      have := hm _ (List.getElem_mem hi)
      refine ⟨⟨this.1, this.2.1, ?_⟩, this.2.2⟩
      by_cases e : i = 0
      · exact .inl e
      · right
        rw [wAt_get _ _ (by omega)]
        exact hu.get (by omega) hi
    · rw [wAt_get _ _ (by omega)]
      obtain ⟨i, hi, he⟩ := List.getElem_of_mem ht
      have h3 := (hm _ (List.getElem_mem (show xs.length - 1 < xs.length by omega))).2.2
      by_cases e : i = xs.length - 1
      · subst e; exact he
      · have := hu.get (i := i) (j := xs.length - 1) (by omega) (by omega)
        omega
theorem WinOk.up {top : Int} {xs : List Int} (h : WinOk top xs) : Up xs := by
  rcases h with ⟨_, rfl⟩ | h
  · exact List.Pairwise.nil
  · exact h.2.2.1
theorem WinOk.all {top : Int} {xs : List Int} (h : WinOk top xs) : ∀ x ∈ xs, 1 ≤ x ∧ top - 32 < x ∧ x ≤ top := by
  rcases h with ⟨_, rfl⟩ | h
  · simp
  · exact h.2.2.2.1
theorem WinOk.range {top : Int} {xs : List Int} (h : WinOk top xs) : 0 ≤ top ∧ top ≤ 1000000000 := by
  rcases h with ⟨rfl, _⟩ | h
  · omega
  · have := h.1; have := h.2.1; omega

/-- What accepting n makes of a right window. -/
abbrev takes (top : Int) (xs : List Int) (n : Int) : Prop := 1 ≤ n ∧ n ≤ 1000000000 ∧ top - 32 < n ∧ n ∉ xs
def putUp (n : Int) (l : List Int) : List Int := l.filter (fun x => decide (x < n)) ++ n :: l.filter (fun x => decide (n < x))
def accX (top : Int) (xs : List Int) (n : Int) : List Int := if takes top xs n then putUp n (xs.filter fun x => decide (max top n - 32 < x)) else xs
def accT (top : Int) (xs : List Int) (n : Int) : Int := if takes top xs n then max top n else top
def accB (top : Int) (xs : List Int) (n : Int) : Bool := decide (takes top xs n)

theorem putUp_up {n : Int} {l : List Int} (h : Up l) : Up (putUp n l) := by
  refine List.pairwise_append.2 ⟨h.sublist List.filter_sublist, List.pairwise_cons.2 ⟨fun x hx => ?_, h.sublist List.filter_sublist⟩, fun x hx y hy => ?_⟩
  · simpa using (List.mem_filter.1 hx).2
  · have h1 : x < n := by simpa using (List.mem_filter.1 hx).2
    rcases List.mem_cons.1 hy with e | e
    · omega
    · have h2 : n < y := by simpa using (List.mem_filter.1 e).2
      omega
theorem mem_putUp {n : Int} {l : List Int} (x : Int) : x ∈ putUp n l ↔ x = n ∨ x ∈ l := by
  unfold putUp
  simp only [List.mem_append, List.mem_filter, List.mem_cons, decide_eq_true_eq]
  constructor
  · rintro (⟨h, _⟩ | h | ⟨h, _⟩)
    · exact .inr h
    · exact .inl h
    · exact .inr h
  · rintro (h | h)
    · exact .inr (.inl h)
    · by_cases e : x = n
      · exact .inr (.inl e)
      · by_cases e' : x < n
        · exact .inl ⟨h, e'⟩
        · exact .inr (.inr ⟨h, by omega⟩)
/-- Any rising list with these members is the one that is accepted. -/
theorem accX_of {top n : Int} {xs ys : List Int} (hw : WinOk top xs) (ht : takes top xs n) (hu : Up ys) (hm : ∀ x, x ∈ ys ↔ (x = n ∨ (x ∈ xs ∧ max top n - 32 < x))) : ys = accX top xs n := by
  unfold accX
  rw [if_pos ht]
  refine Up.eq hu (putUp_up (hw.up.sublist List.filter_sublist)) fun x => ?_
  rw [hm, mem_putUp]
  simp
theorem WinOk.acc {top n : Int} {xs : List Int} (hw : WinOk top xs) : WinOk (accT top xs n) (accX top xs n) := by
  unfold accT accX
  by_cases ht : takes top xs n
  · rw [if_pos ht, if_pos ht]
    have ht' := ht
    unfold takes at ht'
    have hr := hw.range
    right
    refine ⟨by omega, by omega, putUp_up (hw.up.sublist List.filter_sublist), fun x hx => ?_, ?_⟩
    · rcases (mem_putUp x).1 hx with e | e
      · omega
      · have h1 := List.mem_filter.1 e
        have h2 := hw.all x h1.1
        have h3 : max top n - 32 < x := by simpa using h1.2
        omega
    · rw [mem_putUp]
      by_cases e : n < top
      · right
        rw [List.mem_filter]
        rcases hw with ⟨e0, _⟩ | hw
        · omega
        · have := hw.2.2.2.2
          rw [show max top n = top by omega]
          exact ⟨this, by simp; omega⟩
      · left; omega
  · rw [if_neg ht, if_neg ht]; exact hw

/-- The bits of a window: bit i is that of top - i. -/
def HasBits (b : Nat) (top : Int) (xs : List Int) : Prop := b < 4294967296 ∧ ∀ i, i < 32 → (b.testBit i = true ↔ (top - (i : Int)) ∈ xs)
theorem HasBits.none (top : Int) : HasBits 0 top [] := ⟨by omega, fun i _ => by simp⟩
theorem two_pow_lt {s : Nat} (h : s < 32) : 2 ^ s < 4294967296 := by
  have := Nat.pow_lt_pow_right (a := 2) (by omega) h
  simpa using this
theorem HasBits.or {b : Nat} {top n : Int} {xs : List Int} (h : HasBits b top xs) (s : Nat) (hs : s < 32) (hn : n = top - (s : Int)) : HasBits (b ||| 2 ^ s) top (xs ++ [n]) := by
  refine ⟨?_, fun i hi => ?_⟩
  · have := Nat.or_lt_two_pow (n := 32) (x := b) (y := 2 ^ s) (by simpa using h.1) (by have := two_pow_lt hs; simpa using this)
    simpa using this
  · rw [Nat.testBit_or, Nat.testBit_two_pow, List.mem_append, List.mem_singleton, Bool.or_eq_true, decide_eq_true_eq, h.2 i hi, hn]
    constructor
    · rintro (e | e)
      · exact .inl e
      · exact .inr (by omega)
    · rintro (e | e)
      · exact .inl e
      · exact .inr (by omega)
theorem HasBits.same {b : Nat} {top : Int} {xs ys : List Int} (h : HasBits b top xs) (hm : ∀ i, i < 32 → ((top - ((i : Nat) : Int)) ∈ xs ↔ (top - ((i : Nat) : Int)) ∈ ys)) : HasBits b top ys := ⟨h.1, fun i hi => (h.2 i hi).trans (hm i hi)⟩
theorem HasBits.shift {b : Nat} {top : Int} {xs : List Int} (h : HasBits b top xs) (hx : ∀ x ∈ xs, x ≤ top) (s : Nat) : HasBits (b * 2 ^ (min s 32) % 4294967296) (top + (s : Int)) xs := by
  refine ⟨Nat.mod_lt _ (by omega), fun i hi => ?_⟩
  rw [show (4294967296 : Nat) = 2 ^ 32 by rfl, Nat.testBit_mod_two_pow, Nat.mul_comm, Nat.testBit_two_pow_mul]
  simp only [hi, decide_true, Bool.true_and, Bool.and_eq_true, decide_eq_true_eq]
  constructor
  · rintro ⟨h1, h2⟩
    have hs : min s 32 = s := by omega
    rw [hs] at h1 h2
    have := (h.2 (i - s) (by omega)).1 h2
    rw [show top + (s : Int) - (i : Int) = top - ((i - s : Nat) : Int) by omega]
    exact this
  · intro hm
    have := hx _ hm
    have hsi : s ≤ i := by omega
    have hs : min s 32 = s := by omega
    rw [hs]
    refine ⟨hsi, (h.2 (i - s) (by omega)).2 ?_⟩
    rw [show top - ((i - s : Nat) : Int) = top + (s : Int) - (i : Int) by omega]
    exact hm
theorem and_pow (b s : Nat) : b &&& 2 ^ s = if b.testBit s = true then 2 ^ s else 0 := by
  refine Nat.eq_of_testBit_eq fun i => ?_
  rw [Nat.testBit_and, Nat.testBit_two_pow]
  by_cases e : s = i
  · subst e
    by_cases hb : b.testBit s = true
    · rw [if_pos hb, hb, Nat.testBit_two_pow]; simp
    · rw [if_neg hb]; simp [hb]
  · by_cases hb : b.testBit s = true
    · rw [if_pos hb, Nat.testBit_two_pow]; simp [e]
    · rw [if_neg hb]; simp [e]
theorem or_pow_of_bit {b s : Nat} (h : b.testBit s = true) : b ||| 2 ^ s = b := by
  refine Nat.eq_of_testBit_eq fun i => ?_
  rw [Nat.testBit_or, Nat.testBit_two_pow]
  by_cases e : s = i
  · subst e; simp [h]
  · simp [e]
theorem div_bit (b s : Nat) : (b / 2 ^ s) &&& 1 = if b.testBit s = true then 1 else 0 := by
  rw [Nat.and_one_is_mod, Nat.testBit_eq_decide_div_mod_eq]
  by_cases h : b / 2 ^ s % 2 = 1
  · rw [if_pos (by simpa using h), h]
  · rw [if_neg (by simpa using h)]; omega

/-- The numbers that a window's bits tell, the first j of its 32. -/
def winTo (top : Int) (b : Nat) : Nat → List Int
  | 0 => []
  | j + 1 => if b.testBit (31 - j) = true then winTo top b j ++ [top - ((31 - j : Nat) : Int)] else winTo top b j
theorem mem_winTo (top : Int) (b : Nat) : ∀ (j : Nat) (x : Int), x ∈ winTo top b j ↔ ∃ i, i < j ∧ b.testBit (31 - i) = true ∧ x = top - ((31 - i : Nat) : Int)
  | 0, x => by simp [winTo]
  | j + 1, x => by
    unfold winTo
    by_cases h : b.testBit (31 - j) = true
    · rw [if_pos h, List.mem_append, mem_winTo top b j x, List.mem_singleton]
      constructor
      · rintro (⟨i, h1, h2, h3⟩ | e)
        · exact ⟨i, by omega, h2, h3⟩
        · exact ⟨j, by omega, h, e⟩
      · rintro ⟨i, h1, h2, h3⟩
        by_cases e : i = j
        · subst e; exact .inr h3
        · exact .inl ⟨i, by omega, h2, h3⟩
    · rw [if_neg h, mem_winTo top b j x]
      constructor
      · rintro ⟨i, h1, h2, h3⟩
        exact ⟨i, by omega, h2, h3⟩
      · rintro ⟨i, h1, h2, h3⟩
        by_cases e : i = j
        · subst e; exact absurd h2 h
        · exact ⟨i, by omega, h2, h3⟩
theorem winTo_up (top : Int) (b : Nat) : ∀ (j : Nat), j ≤ 32 → Up (winTo top b j)
  | 0, _ => List.Pairwise.nil
  | j + 1, hj => by
    unfold winTo
    have ih := winTo_up top b j (by omega)
    by_cases h : b.testBit (31 - j) = true
    · rw [if_pos h]
      refine ih.push fun x hx => ?_
      obtain ⟨i, h1, _, h3⟩ := (mem_winTo top b j x).1 hx
      omega
    · rw [if_neg h]; exact ih
theorem winTo_len (top : Int) (b : Nat) : ∀ (j : Nat), (winTo top b j).length ≤ j
  | 0 => by simp [winTo]
  | j + 1 => by
    unfold winTo
    have ih := winTo_len top b j
    split
    · simp; omega
    · omega
theorem winTo_all {top : Int} {b : Nat} {xs : List Int} (h : HasBits b top xs) (hu : Up xs) (hx : ∀ x ∈ xs, top - 32 < x ∧ x ≤ top) : winTo top b 32 = xs := by
  refine Up.eq (winTo_up top b 32 (Nat.le_refl _)) hu fun x => ?_
  rw [mem_winTo]
  constructor
  · rintro ⟨i, h1, h2, rfl⟩
    exact (h.2 (31 - i) (by omega)).1 h2
  · intro hm
    have := hx x hm
    refine ⟨(31 - (top - x)).toNat, by omega, ?_, by omega⟩
    rw [h.2 _ (by omega)]
    rw [show top - ((31 - (31 - (top - x)).toNat : Nat) : Int) = x by omega]
    exact hm

/-- What accept makes of the bits. -/
def accTop (top n : Int) : Int := if 1 ≤ n ∧ n ≤ 1000000000 ∧ top - 32 < n then max top n else top
def shl32 (b : Nat) (top n : Int) : Nat := if top < n then b * 2 ^ (min (n - top).toNat 32) % 4294967296 else b
def accBits (b : Nat) (top n : Int) : Nat := if 1 ≤ n ∧ n ≤ 1000000000 ∧ top - 32 < n then shl32 b top n ||| 2 ^ (max top n - n).toNat else b
theorem HasBits.shifted {b : Nat} {top n : Int} {xs : List Int} (h : HasBits b top xs) (hx : ∀ x ∈ xs, x ≤ top) : HasBits (shl32 b top n) (max top n) xs := by
  unfold shl32
  by_cases e : top < n
  · rw [if_pos e]
    have := h.shift hx (n - top).toNat
    rwa [show top + (((n - top).toNat : Nat) : Int) = max top n by omega] at this
  · rw [if_neg e, show max top n = top by omega]; exact h
theorem HasBits.acc {b : Nat} {top n : Int} {xs : List Int} (h : HasBits b top xs) (hw : WinOk top xs) : accTop top n = accT top xs n ∧ HasBits (accBits b top n) (accTop top n) (accX top xs n) := by
  unfold accTop accT accBits accX
  by_cases hr : 1 ≤ n ∧ n ≤ 1000000000 ∧ top - 32 < n
  · rw [if_pos hr, if_pos hr]
    have hs := h.shifted (n := n) (fun x hx => (hw.all x hx).2.2)
    by_cases hm : n ∈ xs
    · have hnt : ¬ takes top xs n := fun t => t.2.2.2 hm
      have hle := (hw.all n hm).2.2
      rw [if_neg hnt, if_neg hnt, show max top n = top by omega]
      refine ⟨rfl, ?_⟩
      have hbit : (shl32 b top n).testBit (top - n).toNat = true := by
        unfold shl32
        rw [if_neg (by omega), h.2 _ (by omega), show top - (((top - n).toNat : Nat) : Int) = n by omega]
        exact hm
      rw [or_pow_of_bit hbit]
      rw [show max top n = top by omega] at hs
      exact hs
    · have ht : takes top xs n := ⟨hr.1, hr.2.1, hr.2.2, hm⟩
      rw [if_pos ht, if_pos ht]
      refine ⟨rfl, (hs.or (max top n - n).toNat (by omega) (n := n) (by omega)).same fun i hi => ?_⟩
      rw [mem_putUp, List.mem_append, List.mem_singleton, List.mem_filter]
      constructor
      · rintro (e | e)
        · exact .inr ⟨e, by simp; omega⟩
        · exact .inl e
      · rintro (e | e)
        · exact .inr e
        · exact .inl e.1
  · rw [if_neg hr, if_neg hr]
    have hnt : ¬ takes top xs n := fun t => hr ⟨t.1, t.2.1, t.2.2.1⟩
    rw [if_neg hnt, if_neg hnt]
    exact ⟨rfl, h⟩
theorem HasBits.fresh {b : Nat} {top n : Int} {xs : List Int} (h : HasBits b top xs) (hw : WinOk top xs) (hr : 1 ≤ n ∧ n ≤ 1000000000 ∧ top - 32 < n) : (shl32 b top n).testBit (max top n - n).toNat = !accB top xs n := by
  have hs := h.shifted (n := n) (fun x hx => (hw.all x hx).2.2)
  have := hs.2 (max top n - n).toNat (by omega)
  rw [show max top n - (((max top n - n).toNat : Nat) : Int) = n by omega] at this
  unfold accB takes
  cases e : (shl32 b top n).testBit (max top n - n).toNat with
  | true => simp [this.1 e]
  | false =>
    have hn : n ∉ xs := fun hm => by rw [this.2 hm] at e; cases e
    simp [hr.1, hr.2.1, hr.2.2, hn]
end Go.Proofs.Ythfgiabkafdbdaa.Wn
