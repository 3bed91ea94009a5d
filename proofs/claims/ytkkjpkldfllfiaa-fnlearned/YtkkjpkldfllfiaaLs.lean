
/- The contract of learnedSet: just what can be learned. -/
import Derived.Test.YtkkjpkldfllfiaaWu
import Derived.Lib.SliceRun
namespace Go.Proofs.Ytkkjpkldfllfiaa
open Go.RowKit

abbrev unitV : Value := .agg #[]
/-- The map of a set. -/
def setF (st : List K2) : K2 → Option Value := fun k => if k ∈ st then some unitV else none
theorem putF_setF (st : List K2) (k : K2) : putF (setF st) k unitV = setF (k :: st) := by
  funext x
  by_cases h : x = k
  · simp [putF, setF, h]
  · simp [putF, setF, h]
/-- How many wraps stand under a key that is not in the set. -/
def pend (ws : List W4) (st : List K2) : Nat := (ws.filter fun x => decide (wUnder x ∉ st)).length
theorem pend_le (ws : List W4) (st : List K2) : pend ws st ≤ ws.length := List.length_filter_le _ _
theorem pend_put (ws : List W4) (st : List K2) (k : K2) (hk : k ∉ st) : pend ws (k :: st) + (grp ws k).length = pend ws st := by
  unfold pend grp
  rw [List.length_map]
  induction ws with
  | nil => rfl
  | cons a l ih =>
    by_cases h : wUnder a = k
    · have h1 : ¬ wUnder a ∉ k :: st := by simp [h]
      have h2 : wUnder a ∉ st := by rw [h]; exact hk
      rw [List.filter_cons_of_neg (by simpa using h1), List.filter_cons_of_pos (by simpa using h), List.filter_cons_of_pos (by simpa using h2)]
      simp only [List.length_cons]
      omega
    · rw [List.filter_cons_of_neg (p := fun x => decide (wUnder x = k)) (by simpa using h)]
      by_cases h2 : wUnder a ∉ st
      · have h1 : wUnder a ∉ k :: st := by simp only [List.mem_cons, not_or]; exact ⟨h, h2⟩
        rw [List.filter_cons_of_pos (by simpa using h1), List.filter_cons_of_pos (by simpa using h2)]
        simp only [List.length_cons]
        omega
      · have h1 : ¬ wUnder a ∉ k :: st := fun h => h2 fun m => h (List.mem_cons_of_mem _ m)
        rw [List.filter_cons_of_neg (by simpa using h1), List.filter_cons_of_neg (by simpa using h2)]
        exact ih
/-- The same, read off the world. -/
def inMap (w : World) (b : Nat) (k : K2) : Prop := ∃ es clock, w.heap[b]? = some (.map es clock) ∧ ∃ e ∈ es.toList, e.key = kv k.1 k.2
theorem MapF.inMap {b n : Nat} {st : List K2} {w : World} (h : MapF b n (setF st) w) (k : K2) : inMap w b k ↔ k ∈ st := by
  obtain ⟨es, clock, hb, _, _, h1, h2⟩ := h
  constructor
  · rintro ⟨es', clock', hb', e, he, hk⟩
    rw [hb] at hb'
    injection hb' with hb'
    injection hb' with h3 h4
    subst h3
    obtain ⟨k', e1, e2⟩ := h1 e he
    have : k = k' := kv_inj (hk.symm.trans e1)
    subst this
    by_cases hm : k ∈ st
    · exact hm
    · simp [setF, hm] at e2
  · intro hm
    obtain ⟨e, he, hk, _⟩ := h2 k unitV (by simp [setF, hm])
    exact ⟨es, clock, hb, e, he, hk⟩
open Classical in
/-- How many wraps are still to be opened can be read off the world. -/
theorem pendW_some (b : Nat) (ws : List W4) : ∃ f : World → Nat, ∀ (n : Nat) (st : List K2) (w : World), MapF b n (setF st) w → f w = pend ws st := by
  refine ⟨fun w => (ws.filter fun x => decide (¬ inMap w b (wUnder x))).length, fun n st w h => ?_⟩
  unfold pend
  show (ws.filter fun x => decide (¬ inMap w b (wUnder x))).length = _
  congr 1
  apply List.filter_congr
  intro x _
  have := h.inMap (wUnder x)
  by_cases hm : wUnder x ∈ st
  · simp [this.2 hm, hm]
  · have h2 : ¬ Proofs.Ytkkjpkldfllfiaa.inMap w b (wUnder x) := fun h => hm (this.1 h)
    simp [h2, hm]

/-- What stands on the way. -/
structure Onway (ks : List K2) (ws : List W4) (st op : List K2) : Prop where
  nodup : st.Nodup
  lrnS : ∀ k ∈ st, Lrn ks ws k
  lrnO : ∀ k ∈ op, Lrn ks ws k
  known : ∀ k ∈ ks, k ∈ st ∨ k ∈ op
  closed : ∀ x ∈ ws, wUnder x ∈ st → wKey x ∈ st ∨ wKey x ∈ op
  few : st.length + op.length + pend ws st ≤ ks.length + ws.length
  wfO : ∀ k ∈ op, Wf k
theorem Onway.start {ks : List K2} {ws : List W4} (h : ∀ k ∈ ks, Wf k) : Onway ks ws [] ks :=
  ⟨List.nodup_nil, by simp, fun k h => Lrn.known k h, fun _ h => .inr h, by simp, by have := pend_le ws []; simp; omega, h⟩
theorem Onway.skip {ks : List K2} {ws : List W4} {st op : List K2} {k : K2} (h : Onway ks ws st (op ++ [k])) (hk : k ∈ st) : Onway ks ws st op := by
  have split : ∀ x, x ∈ st ∨ x ∈ op ++ [k] → x ∈ st ∨ x ∈ op := fun x hx => by
    rcases hx with hx | hx
    · exact .inl hx
    · rcases List.mem_append.1 hx with hx | hx
      · exact .inr hx
      · simp at hx; subst hx; exact .inl hk
  exact ⟨h.nodup, h.lrnS, fun x hx => h.lrnO x (List.mem_append_left _ hx), fun x hx => split x (h.known x hx), fun x hx hu => split _ (h.closed x hx hu), by have := h.few; simp at this; omega, fun x hx => h.wfO x (List.mem_append_left _ hx)⟩
theorem Onway.take {ks : List K2} {ws : List W4} {st op : List K2} {k : K2} (h : Onway ks ws st (op ++ [k])) (hk : k ∉ st) (hwf : ∀ x ∈ ws, Wf (wKey x)) : Onway ks ws (k :: st) (op ++ grp ws k) := by
  have hl : Lrn ks ws k := h.lrnO k (by simp)
  have split : ∀ x, x ∈ st ∨ x ∈ op ++ [k] → x ∈ k :: st ∨ x ∈ op ++ grp ws k := fun x hx => by
    rcases hx with hx | hx
    · exact .inl (List.mem_cons_of_mem _ hx)
    · rcases List.mem_append.1 hx with hx | hx
      · exact .inr (List.mem_append_left _ hx)
      · simp at hx; subst hx; exact .inl (by simp)
  refine ⟨List.nodup_cons.2 ⟨hk, h.nodup⟩, fun x hx => ?_, fun x hx => ?_, fun x hx => split x (h.known x hx), fun x hx hu => ?_, ?_, fun x hx => ?_⟩
  · rcases List.mem_cons.1 hx with e | e
    · rw [e]; exact hl
    · exact h.lrnS x e
  · rcases List.mem_append.1 hx with e | e
    · exact h.lrnO x (List.mem_append_left _ e)
    · obtain ⟨y, hy, h1, h2⟩ := mem_grp.1 e
      rw [← h2]
      exact Lrn.wrap y hy (by rw [h1]; exact hl)
  · rcases List.mem_cons.1 hu with e | e
    · exact .inr (List.mem_append_right _ (mem_grp.2 ⟨x, hx, e, rfl⟩))
    · exact split _ (h.closed x hx e)
  · have := h.few
    have := pend_put ws st k hk
    simp at this ⊢
    simp at *
    omega
  · rcases List.mem_append.1 hx with e | e
    · exact h.wfO x (List.mem_append_left _ e)
    · obtain ⟨y, hy, _, h2⟩ := mem_grp.1 e
      rw [← h2]; exact hwf y hy
theorem Onway.done {ks : List K2} {ws : List W4} {st : List K2} (h : Onway ks ws st []) (k : K2) : k ∈ st ↔ Lrn ks ws k := by
  refine ⟨h.lrnS k, fun l => ?_⟩
  exact l (fun k => k ∈ st) (fun k hk => by simpa using h.known k hk) (fun x hx ih => by simpa using h.closed x hx ih)

theorem kcells_take (ks : List K2) (m : Nat) : (kcells ks).take (m * 2) = kcells (ks.take m) := by
  induction ks generalizing m with
  | nil => simp [kcells]
  | cons k ks ih =>
    cases m with
    | zero => simp [kcells]
    | succ m =>
      have e : (m + 1) * 2 = m * 2 + 1 + 1 := by omega
      have := ih m
      rw [e]
      simpa [kcells] using this
theorem Keys.cut {B g cap : Nat} {ks : List K2} {n : Nat} {W : World} (h : Keys B (.slice (some ⟨g, 0, none⟩) n cap) ks W) (m : Nat) (hm : m ≤ ks.length) : Keys B (.slice (some ⟨g, 0, none⟩) m cap) (ks.take m) W := by
  have hl : (ks.take m).length = m := by simp; omega
  obtain ⟨_, h2⟩ := h
  rcases h2 with ⟨e, _⟩ | ⟨g', cap', cur, e, hb, hg, h1, h3, h4, h5⟩
  · cases e
  · injection e with e e1 e2
    injection e with e
    injection e with e
    subst e e2
    refine ⟨by rw [kcells_length], .inr ⟨g, cap, cur, by rw [hl], hb, hg, by omega, h3, h4, ?_⟩⟩
    rw [hl, ← kcells_take, ← h5, List.take_take, Nat.min_eq_left (by omega)]

theorem zeroUnit (u : World) : (zeroValue 123).run Try.prog u = .ok unitV u := by kernel_rfl
theorem wpList_lookup_run {w : World} {v : Value} {ops : Array Oper} {rest : List Oper} {o : Oper} {a : Act} {Q : Exit → Act → World → Prop} (hg : o.guard = none) (t : TypeId) (m x : Operand) (c : Bool) (hop : o.op = .lookup t m x c)
    (mv xv : Value) (hm : a.eval m = mv) (hx : a.eval x = xv) (hrun : (Instr.lookup t mv xv c).run Try.prog w = .ok v w) (h : wpList Try.prog ops Q rest (a.put o.dst v) w) : wpList Try.prog ops Q (o :: rest) a w := by
  refine wpList_plain hg fun K' hK' => ?_
  unfold Oper.wp
  simp [execOp, hop, hm, hx, hrun, Result.andThen]
  exact hK' _ _ h
theorem wpList_setPut {w : World} {ops : Array Oper} {rest : List Oper} {o : Oper} {a : Act} {Q : Exit → Act → World → Prop} (hg : o.guard = none) (m x v : Operand) (hop : o.op = .mapUpdate 90 m x v)
    (b n : Nat) (st : List K2) (k : K2) (hm : a.eval m = .map (some b)) (hx : a.eval x = kv k.1 k.2) (hv : a.eval v = unitV) (hM : MapF b n (setF st) w) (hn : n < maxLen) (hk : Wf k)
    (h : ∀ w', MapF b (n + 1) (setF (k :: st)) w' → w.grownBy w' (some b) → wpList Try.prog ops Q rest (a.put o.dst undef) w') : wpList Try.prog ops Q (o :: rest) a w := by
  obtain ⟨es', clock', hrun, hM'⟩ := hM.store Try.underlying90 hn hk unitV
  obtain ⟨es, clock, hb, _⟩ := hM
  refine wpList_plain hg fun K' hK' => ?_
  unfold Oper.wp
  simp [execOp, hop, hm, hx, hv, hrun, Result.andThen]
  exact hK' _ _ (h _ (by have := hM' _ (ChangeMaps.heap_setBlock_same hb _); rwa [putF_setF] at this) (setBlock_grown hb))

set_option maxRecDepth 100000 in
theorem clone_any (kx : Value) (ks : List K2) (w : World) (hk : KArg kx ks w) (hl : ks.length ≤ 100000) :
    Calls Try.prog 87 #[kx] w fun e w' => ∃ v, e = .returned v ∧ Keys w.heap.size v ks w' ∧ Below w.heap.size w w' := by
  have HK : Hid (KArg kx ks (w.alloc (.cells #[] 33))) := hk.below (one_below _ _)
  have hE := emptyK w w.heap.size (Nat.le_refl _)
  have heq := fun (a : Option Addr) (n c : Nat) (u : World) => Lib.run_eql_slice_nil (P := Try.prog) u 24 33 a n c 0 0 Try.underlying24
  rcases hk with ⟨rfl, rfl⟩ | ⟨g, c, rfl, hg, hc, hseg⟩
  · clear HK hE
    go_enter Try.func87, Try.ntmps87
    go_wp2
    go_ret
    exact ⟨_, rfl, World.ownsRow_nil _ _ _ _, Below.refl _ _⟩
  · clear hseg
    generalize hn : ks.length = n at HK hc hl
    go_enter Try.func87, Try.ntmps87
    go_wp2_with (at_builtin; refine wpList_append_keys rfl _ _ rfl w.heap.size (.slice (some ⟨w.heap.size, 0, none⟩) 0 0) _ [] ks rfl hE rfl HK.out (by simp; omega) (by simp) ?_; intro v1 w1 own1 gr1 nil1)
    go_ret
    exact ⟨_, rfl, by simpa using own1, ((Below.refl _ w).alloc (Nat.le_refl _) _).grown gr1 (by simp) (fun j e => by simp [Value.ownBlock] at e; omega)⟩
end Go.Proofs.Ytkkjpkldfllfiaa
