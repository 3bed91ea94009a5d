
/- The contract of wrappedUnder: to each key the keys wrapped under it. -/
import Derived.Test.YtkkjpkldfllfiaaMf
namespace Go.Proofs.Ytkkjpkldfllfiaa
open Go.RowKit

/-- The keys wrapped under k, in their order. -/
def grp (ws : List W4) (k : K2) : List K2 := (ws.filter fun x => decide (wUnder x = k)).map wKey
theorem grp_append (a b : List W4) (k : K2) : grp (a ++ b) k = grp a k ++ grp b k := by simp [grp]
theorem grp_length (ws : List W4) (k : K2) : (grp ws k).length ≤ ws.length := by
  unfold grp
  rw [List.length_map]
  exact List.length_filter_le _ _
theorem mem_grp {ws : List W4} {k y : K2} : y ∈ grp ws k ↔ ∃ x ∈ ws, wUnder x = k ∧ wKey x = y := by
  simp only [grp, List.mem_map, List.mem_filter, decide_eq_true_eq]
  exact ⟨fun ⟨x, ⟨h1, h2⟩, h3⟩ => ⟨x, h1, h2, h3⟩, fun ⟨x, h1, h2, h3⟩ => ⟨x, ⟨h1, h2⟩, h3⟩⟩
/-- Block b is a map with the keys wrapped under each. -/
def Grp (b n : Nat) (ws : List W4) (w : World) : Prop := ∃ f, MapF b n f w ∧ (∀ k, f k = none → grp ws k = []) ∧ (∀ k v, f k = some v → Keys (b + 1) v (grp ws k) w) ∧
  ∀ k k' v v', f k = some v → f k' = some v' → k ≠ k' → v.ownBlock = none ∨ v.ownBlock ≠ v'.ownBlock
theorem Grp.below {b n : Nat} {ws : List W4} {w w' : World} (h : Grp b n ws w) (hb : Below w.heap.size w w') : Grp b n ws w' := by
  obtain ⟨f, h1, h2, h3, h4⟩ := h
  exact ⟨f, h1.kept (hb.block b h1.lt), h2, fun k v hf => (h3 k v hf).below hb (fun j e => ((h3 k v hf).lt j e).2), h4⟩
theorem Grp.made (w : World) : Grp w.heap.size 0 [] (w.alloc (.map #[] 0)) := ⟨fun _ => none, MapF.made w, fun _ _ => rfl, ⟨fun _ _ h => by simp at h, fun _ _ _ _ h => by simp at h⟩⟩
theorem zeroKeys (u : World) : (zeroValue 24).run Try.prog u = .ok (.slice none 0 0) u := by kernel_rfl
/-- One wrap more: what lies at its key, and the way back. -/
theorem Grp.entry {b n : Nat} {ws : List W4} {w : World} (h : Grp b n ws w) (hn : n < maxLen) (x : W4) (hx : Wf (wUnder x)) :
    ∃ (v : Value) (st : Nat) (w1 : World), (Instr.mapEntry 120 (.map (some b)) (kv x.1 x.2.1)).run Try.prog w = .ok (.tuple #[v, goInt st]) w1 ∧ w.grownBy w1 (some b) ∧ Keys (b + 1) v (grp ws (wUnder x)) w1 ∧
      ∀ (w2 : World) (v' : Value), w1.grownBy w2 v.ownBlock → Keys (b + 1) v' (grp ws (wUnder x) ++ [wKey x]) w2 → (v'.ownBlock = v.ownBlock ∨ ∃ g, v'.ownBlock = some g ∧ w1.heap.size ≤ g) →
        ∃ w3, (Instr.entryStore 120 (.map (some b)) (goInt st) v').run Try.prog w2 = .ok () w3 ∧ Grp b (n + 1) (ws ++ [x]) w3 ∧ w2.grownBy w3 (some b) := by
  obtain ⟨f, h1, h2, h3, h4⟩ := h
  have hblt := h1.lt
  obtain ⟨st, w1, hrun, hg1, hback⟩ := h1.entry Try.underlying120 zeroKeys hn hx
  have hnb : ∀ {B : Nat} {v : Value} {ks : List K2} {W : World}, Keys (b + 1) v ks W → v.ownBlock ≠ some b := fun hk e => by have := (hk.lt b e).1; omega
  have hk1 : Keys (b + 1) ((f (wUnder x)).getD (.slice none 0 0)) (grp ws (wUnder x)) w1 := by
    cases hf : f (wUnder x) with
    | none => rw [h2 _ hf]; exact World.ownsRow_nil _ _ _ _
    | some v => exact (h3 _ v hf).kept hg1 (fun k e => by cases e; exact hnb (B := 0) (h3 _ v hf))
  refine ⟨_, st, w1, hrun, hg1, hk1, fun w2 v' hg2 hk2 hloc => ?_⟩
  generalize hv : (f (wUnder x)).getD (.slice none 0 0) = v at hk1 hg2 hloc
  obtain ⟨w3, hr, hM, hg3⟩ := hback w2 v' (hg2.block b (by have := hg1.size; omega) (fun e => hnb (B := 0) hk1 e.symm))
  refine ⟨w3, hr, ⟨putF f (wUnder x) v', hM, fun k hf => ?_, fun k u hf => ?_, ?_⟩, hg3⟩
  · have hne : ¬ k = wUnder x := fun e => by simp [putF, e] at hf
    simp only [putF, hne, if_false] at hf
    have hne' : ¬ wUnder x = k := fun e => hne e.symm
    rw [grp_append, h2 k hf]
    simp [grp, hne']
  · by_cases e : k = wUnder x
    · subst e
      simp only [putF, if_true, Option.some.injEq] at hf
      subst hf
      have : grp (ws ++ [x]) (wUnder x) = grp ws (wUnder x) ++ [wKey x] := by rw [grp_append]; simp [grp]
      rw [this]
      exact hk2.kept hg3 (fun j e => by cases e; exact hnb (B := 0) hk2)
    · simp only [putF, e, if_false] at hf
      have hne' : ¬ wUnder x = k := fun e' => e e'.symm
      have : grp (ws ++ [x]) k = grp ws k := by rw [grp_append]; simp [grp, hne']
      rw [this]
      have k1 := (h3 k u hf).kept hg1 (fun j e => by cases e; exact hnb (B := 0) (h3 k u hf))
      have k2 : Keys (b + 1) u (grp ws k) w2 := k1.kept hg2 (fun j ej => by
        cases hfx : f (wUnder x) with
        | none => rw [hfx] at hv; rw [← hv] at ej; cases ej
        | some v0 =>
          rw [hfx] at hv
          simp only [Option.getD_some] at hv
          subst hv
          rcases h4 k (wUnder x) u v0 hf hfx e with h | h
          · rw [h]; simp
          · rw [← ej]; exact h)
      exact k2.kept hg3 (fun j ej => by cases ej; exact hnb (B := 0) k2)
  · -- apart
    have apart1 : ∀ k u, f k = some u → k ≠ wUnder x → u.ownBlock = none ∨ u.ownBlock ≠ v'.ownBlock := fun k u hf hne => by
      rcases hloc with e | ⟨g, e, hge⟩
      · rw [e]
        cases hfx : f (wUnder x) with
        | none =>
          rw [hfx] at hv
          rw [← hv]
          cases hu : u.ownBlock with
          | none => exact .inl rfl
          | some j => exact .inr (by simp [Value.ownBlock])
        | some v0 =>
          rw [hfx] at hv
          simp only [Option.getD_some] at hv
          subst hv
          exact h4 k (wUnder x) u v0 hf hfx hne
      · cases hu : u.ownBlock with
        | none => exact .inl rfl
        | some j =>
          refine .inr ?_
          rw [e]
          intro ej
          have := ((h3 k u hf).lt j hu).2
          have := hg1.size
          injection ej with ej
          omega
    intro k k' u u' hf hf' hne
    by_cases e : k = wUnder x
    · subst e
      have e' : ¬ k' = wUnder x := fun e' => hne e'.symm
      simp only [putF, if_true, Option.some.injEq] at hf
      simp only [putF, e', if_false] at hf'
      subst hf
      rcases apart1 k' u' hf' e' with h | h
      · cases hu : v'.ownBlock with
        | none => exact .inl rfl
        | some j => exact .inr (by rw [h]; simp)
      · exact .inr (fun e => h e.symm)
    · simp only [putF, e, if_false] at hf
      by_cases e' : k' = wUnder x
      · subst e'
        simp only [putF, if_true, Option.some.injEq] at hf'
        subst hf'
        exact apart1 k u hf e
      · simp only [putF, e', if_false] at hf'
        exact h4 k k' u u' hf hf' hne

theorem wpList_entry_grp {w : World} {ops : Array Oper} {rest : List Oper} {o : Oper} {a : Act} {Q : Exit → Act → World → Prop} (hg : o.guard = none) (m x : Operand) (hop : o.op = .mapEntry 120 m x)
    (b n : Nat) (ws : List W4) (y : W4) (hm : a.eval m = .map (some b)) (hx : a.eval x = kv y.1 y.2.1) (hG : Grp b n ws w) (hn : n < maxLen) (hy : Wf (wUnder y))
    (h : ∀ (v : Value) (st : Nat) (w1 : World), w.grownBy w1 (some b) → Keys (b + 1) v (grp ws (wUnder y)) w1 →
      (∀ (w2 : World) (v' : Value), w1.grownBy w2 v.ownBlock → Keys (b + 1) v' (grp ws (wUnder y) ++ [wKey y]) w2 → (v'.ownBlock = v.ownBlock ∨ ∃ g, v'.ownBlock = some g ∧ w1.heap.size ≤ g) →
        ∃ w3, (Instr.entryStore 120 (.map (some b)) (goInt st) v').run Try.prog w2 = .ok () w3 ∧ Grp b (n + 1) (ws ++ [y]) w3 ∧ w2.grownBy w3 (some b)) →
      wpList Try.prog ops Q rest (a.put o.dst (.tuple #[v, .int .i64 st])) w1) : wpList Try.prog ops Q (o :: rest) a w := by
  obtain ⟨v, st, w1, hrun, h1, h2, h3⟩ := hG.entry hn y hy
  refine wpList_plain hg fun K' hK' => ?_
  unfold Oper.wp
  simp [execOp, hop, hm, hx, hrun, Result.andThen]
  exact hK' _ _ (h v st w1 h1 h2 h3)
theorem wpList_entryStore_run {w w3 : World} {ops : Array Oper} {rest : List Oper} {o : Oper} {a : Act} {Q : Exit → Act → World → Prop} (hg : o.guard = none) (t : TypeId) (m x y : Operand) (hop : o.op = .entryStore t m x y)
    (mv xv yv : Value) (hm : a.eval m = mv) (hx : a.eval x = xv) (hy : a.eval y = yv) (hrun : (Instr.entryStore t mv xv yv).run Try.prog w = .ok () w3) (h : wpList Try.prog ops Q rest (a.put o.dst undef) w3) : wpList Try.prog ops Q (o :: rest) a w := by
  refine wpList_plain hg fun K' hK' => ?_
  unfold Oper.wp
  simp [execOp, hop, hm, hx, hy, hrun, Result.andThen]
  exact hK' _ _ h
theorem wpList_append_key {w : World} {ops : Array Oper} {rest : List Oper} {o : Oper} {a : Act} {Q : Exit → Act → World → Prop} (hgd : o.guard = none) (s x : Operand)
    (ho : o.op = .call { callee := .builtin .append, args := #[s, x], argTypes := #[24, 24] })
    (base : Nat) (v : Value) (ls : List K2) (hs : a.eval s = v) (hown : Keys base v ls w) (g : Nat) (y1 y2 : Int) (hx : a.eval x = .slice (some ⟨g, 0, none⟩) 1 1)
    (hnews : ∀ j u, [Value.int .i64 y1, .int .i64 y2][j]? = some u → w.cell? ((⟨g, 0, none⟩ : Addr).add j) = some u) (hm : ls.length ≤ 1000000) (hbase : base ≤ w.heap.size)
    (h : ∀ v' w', Keys base v' (ls ++ [(y1, y2)]) w' → w.grownBy w' v.ownBlock → (v'.ownBlock = v.ownBlock ∨ v'.ownBlock = some w.heap.size) → wpList Try.prog ops Q rest (a.put o.dst v') w') : wpList Try.prog ops Q (o :: rest) a w := by
  obtain ⟨i0, hi, hz0, hz1, hz2⟩ := info_parts infoKey
  refine wpList_append_own_at _ hgd s x _ ho base 33 i0 (.agg #[.int .i64 0, .int .i64 0]) 2 16 Try.underlying24 hi hz0 hz1 hz2 rfl (by decide) v _ _ hs hown ⟨g, 0, none⟩ 1 1 [.int .i64 y1, .int .i64 y2] hx rfl hnews (by simp [Value.oneCell']) (by unfold maxLen; omega) (by omega) hbase ?_
  intro v' w' h1 h2 _ h4
  refine h v' w' ?_ h2 h4
  unfold Keys
  rw [List.length_append, kcells_append]
  exact h1
theorem two_below (w : World) (o o' : Obj) : Below w.heap.size w ((w.alloc o).alloc o') := (one_below w o).alloc (by simp) _
theorem news_kept {w w1 : World} {b : Nat} {x y : Int} {t : TypeId} (h : (w.alloc (.cells #[.int .i64 x, .int .i64 y] t)).grownBy w1 (some b)) (hb : b < w.heap.size) : ∀ j u, [Value.int .i64 x, .int .i64 y][j]? = some u → w1.cell? ((⟨w.heap.size, 0, none⟩ : Addr).add j) = some u := fun j u hu =>
  h.cell (cell_two_new w x y t j u hu) (by rw [Addr.add_mid]; intro e; injection e with e; simp only at e; omega)

set_option maxRecDepth 100000 in
set_option maxHeartbeats 2000000 in
theorem wrappedUnder_any (wx : Value) (ws : List W4) (w : World) (hw : WArg wx ws w) (hws : ws.length ≤ 400) (hwf : ∀ x ∈ ws, Wf (wUnder x)) :
    Calls Try.prog 86 #[wx] w fun e w' => ∃ b n, e = .returned (.map (some b)) ∧ w.heap.size ≤ b ∧ Grp b n ws w' ∧ Below w.heap.size w w' := by
  have HW : Hid (WArg wx ws w) := hw
  clear hw
  obtain ⟨n, hn⟩ : ∃ n, ws.length = n := ⟨_, rfl⟩
  obtain ⟨aw, cw, hwx⟩ : ∃ aw cw, wx = .slice aw n cw := by
    rcases HW.out with ⟨h, h2⟩ | ⟨g, c, h, _⟩
    · exact ⟨none, 0, by rw [h, ← hn, h2]; rfl⟩
    · exact ⟨_, c, by rw [h, hn]⟩
  subst hwx
  have hmm := @run_makeMap Try.prog
  have HG : Hid (Grp w.heap.size 0 (ws.take 0) (w.alloc (.map #[] 0)) ∧ Below w.heap.size w (w.alloc (.map #[] 0))) := ⟨by rw [List.take_zero]; exact Grp.made w, one_below _ _⟩
  go_enter Try.func86, Try.ntmps86
  go_wp2
  go_loopw [9] (fun i wr => ∃ k : Nat, k ≤ n ∧ i = .int .i64 k ∧ Hid (Grp w.heap.size k (ws.take k) wr ∧ Below w.heap.size w wr)) (fun i _ => n - (intOf i).toNat)
  case atStart => exact ⟨0, Nat.zero_le _, rfl, HG⟩
  case round =>
    obtain ⟨k, hk, rfl, HI⟩ := hrel
    clear HG
    by_cases hlt : k < n
    · have hlk : k < ws.length := by omega
      obtain ⟨gw, haw, hgw, hwseg⟩ : ∃ gw, aw = some ⟨gw, 0, none⟩ ∧ gw < w.heap.size ∧ WSeg gw 0 ws w := by
        rcases HW.out with ⟨_, e⟩ | ⟨gw, c, e, e1, _, e2⟩
        · rw [e] at hlk; simp at hlk
        · injection e with e; exact ⟨gw, e, e1, e2⟩
      subst haw
      obtain ⟨a1, a2, a3, a4⟩ := hwseg k hlk
      simp only [Nat.zero_add] at a1 a2 a3 a4
      have hxm : ws[k] ∈ ws := List.getElem_mem hlk
      have hwfx := hwf _ hxm
      have HT : Hid (ws.take (k + 1) = ws.take k ++ [ws[k]]) := List.take_succ_eq_append_getElem hlk
      obtain ⟨u1, u2, k1, k2, hX⟩ : ∃ u1 u2 k1 k2, ws[k] = (u1, u2, k1, k2) := ⟨_, _, _, _, rfl⟩
      rw [hX] at a1 a2 a3 a4 hwfx HT
      have o4 := HI.out.2
      have c1 := (o4.cell (p := ⟨gw, k * 4, none⟩) hgw).trans a1
      have c2 := (o4.cell (p := ⟨gw, k * 4 + 1, none⟩) hgw).trans a2
      have c3 := (o4.cell (p := ⟨gw, k * 4 + 2, none⟩) hgw).trans a3
      have c4 := (o4.cell (p := ⟨gw, k * 4 + 3, none⟩) hgw).trans a4
      have hgr : (grp (ws.take k) (u1, u2)).length ≤ k := by have := grp_length (ws.take k) (u1, u2); simp at this; omega
      have hsz := o4.size
      have hbl := HI.out.1
      have hblt : w.heap.size < wr.heap.size := by obtain ⟨f, h, _⟩ := hbl; exact h.lt
      clear hwseg a1 a2 a3 a4 hX hxm o4 hbl
      go_wp2_with (first
        | (refine wpList_entry_grp rfl _ _ rfl w.heap.size k (ws.take k) (u1, u2, k1, k2) rfl rfl (HI.out.1.below (two_below _ _ _)) (by unfold maxLen; omega) hwfx ?_; intro v st w1 g1 own1 hback; have hnw := news_kept g1 (by simp; omega); rw [show (wr.alloc (wb u1 u2 k1 k2)).heap.size = wr.heap.size + 1 by simp] at hnw; have hbs : w.heap.size + 1 ≤ w1.heap.size := (by have := g1.size; simp at this; omega); have hB1 : Hid (Below w.heap.size w w1) := ((HI.out.2.alloc hsz _).alloc (by simp; omega) _).grown g1 (by simp; omega) (fun j e => by cases e; exact Nat.le_refl _); clear g1)
        | (at_builtin; refine wpList_append_key rfl _ _ rfl (w.heap.size + 1) v (grp (ws.take k) (u1, u2)) rfl own1 _ k1 k2 rfl hnw (by omega) hbs ?_; intro v2 w2 own2 gr2 loc2; obtain ⟨w3, hr3, hG3, g3⟩ := hback w2 v2 gr2 own2 (loc2.imp id fun e => ⟨_, e, Nat.le_refl _⟩); have hB3 : Hid (Below w.heap.size w w3) := (hB1.out.grown gr2 (by omega) (fun j e => by have := (own1.lt j e).1; omega)).grown g3 (by have := gr2.size; omega) (fun j e => by cases e; exact Nat.le_refl _); have hG4 : Hid (Grp w.heap.size (k + 1) (ws.take (k + 1)) w3) := (by rw [HT.out]; exact hG3); clear hG3 g3 gr2 loc2 own2 hback)
        | (refine wpList_entryStore_run rfl _ _ _ _ rfl _ _ _ rfl rfl rfl hr3 ?_))
      go_roundw
      case rel => exact ⟨k + 1, by omega, by go_num, hG4.out, hB3.out⟩
      case measure => simp [intOf]; omega
    · go_wp2
      go_ret
      exact ⟨_, _, rfl, Nat.le_refl _, (by have e : ws.take k = ws := List.take_of_length_le (by omega); have := HI.out.1; rw [e] at this; exact this), HI.out.2⟩
end Go.Proofs.Ytkkjpkldfllfiaa
