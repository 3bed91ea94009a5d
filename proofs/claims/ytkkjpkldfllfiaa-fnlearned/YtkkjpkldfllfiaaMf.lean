
/- Maps by keys, that a call makes: what lies at each key. -/
import Derived.Test.YtkkjpkldfllfiaaL2Learn
import Derived.Maps.Own
import Derived.Maps.OwnSet
import Derived.WideKeyEntry
import Derived.DeepKeys4
namespace Go.Proofs.Ytkkjpkldfllfiaa
open Go.RowKit
open Go.Maps (Keyed)
open Go.WideElems (Fit rd rg pl rd_val rd_key)
open Go.ChangeMaps (setBlock heap_setBlock_same heap_setBlock_other)

theorem laidOutM : laidOutB Try.prog = true := by kernel_rfl
theorem rowKey : (33 : TypeId) < Try.prog.types.size := of_decide_eq_true (by kernel_rfl)
theorem wideKey : (match Try.prog.underlying 33 with | some (.array _ _) | some (.struct _) => true | _ => false) = true := by rw [Try.underlying33]
set_option maxRecDepth 100000 in
theorem lawK : WideMaps.KeyLaw Try.prog 33 := deep_law_laid laidOutM (m := 2) (by omega) rowKey (by kernel_rfl) wideKey
theorem keyedK : Keyed Try.prog 33 := Keyed.of_law lawK
theorem keyTypeK : Try.prog.keyType 33 = true := by kernel_rfl
theorem cellsKey : Try.prog.cellsOf 33 = 2 := by kernel_rfl
theorem cellsI64 : Try.prog.cellsOf 2 = 1 := by kernel_rfl
abbrev wf64 (a : Int) : Prop := (Lit.int .i64 a).wf = true
/-- The key of a map. -/
abbrev kLit (k : K2) : Lit := .string (keyBytes [.int .i64 k.1, .int .i64 k.2])
def Wf (k : K2) : Prop := wf64 k.1 ∧ wf64 k.2
theorem wf_ok {a b : Int} (h : okK a b = true) : Wf (a, b) := by
  have := of_decide_eq_true h
  exact ⟨WalkArith.wf_i64 (by omega), WalkArith.wf_i64 (by omega)⟩
theorem keyOf_kv {k : K2} (h : Wf k) : keyOf Try.prog 33 (kv k.1 k.2) = some (kLit k) := by
  obtain ⟨h1, h2⟩ := h
  unfold keyOf
  rw [Try.underlying33]
  have hf : (kv k.1 k.2).formed Try.prog 33 = true := by simp [Value.formed, Try.underlying33, cellsKey]
  simp only [keyTypeK, hf, Bool.and_self, if_true]
  obtain ⟨n, hn⟩ : ∃ n, Try.prog.types.size + 1 = n + 2 := ⟨Try.prog.types.size - 1, by have h : (33 : Nat) < Try.prog.types.size := rowKey; omega⟩
  rw [hn]
  simp only [Program.keyLits, Try.underlying33, Value.cells, cellsKey]
  simp [Try.underlying2, cellsI64, h1, h2]
theorem lits_i64 {P : Program} {t : TypeId} (hu : P.underlying t = some (.int .i64)) {n : Nat} {c : Value} {ls : List Lit} (h : P.keyLits (n + 1) t [c] = some ls) : ∃ a, c = .int .i64 a ∧ wf64 a := by
  unfold Program.keyLits at h
  rw [hu] at h
  cases c with
  | int q a =>
    simp only at h
    split at h
    · rename_i hq
      exact ⟨a, by rw [hq.1], hq.2⟩
    · cases h
  | _ => simp at h
theorem lits_two {P : Program} {k t : TypeId} {f0 f1 : Field} (hk : P.underlying k = some (.struct #[f0, f1])) (h0 : f0.type = t ∧ f0.offset = 0) (h1 : f1.type = t ∧ f1.offset = 1) (ht : P.cellsOf t = 1) {n : Nat} {c0 c1 : Value} {ls : List Lit}
    (h : P.keyLits (n + 1) k [c0, c1] = some ls) : (∃ l, P.keyLits n t [c0] = some l) ∧ ∃ l, P.keyLits n t [c1] = some l := by
  unfold Program.keyLits at h
  rw [hk] at h
  simp only at h
  split at h
  · simp [h0, h1, ht] at h
    cases e1 : P.keyLits n t [c0] with
    | none => rw [e1] at h; cases h
    | some l1 =>
      cases e2 : P.keyLits n t [c1] with
      | none => rw [e1, e2] at h; cases h
      | some l2 => exact ⟨⟨l1, rfl⟩, ⟨l2, rfl⟩⟩
  · cases h
theorem agg_two {P : Program} {k : TypeId} {fs : Array Field} (hk : P.underlying k = some (.struct fs)) (hc : P.cellsOf k = 2) {v : Value} (hf : v.formed P k = true) : ∃ c0 c1, v = .agg #[c0, c1] := by
  cases v with
  | agg cs =>
    simp only [Value.formed, hk, hc, beq_iff_eq] at hf
    obtain ⟨l⟩ := cs
    match l, hf with
    | [c0, c1], _ => exact ⟨c0, c1, rfl⟩
  | _ => simp [Value.formed, hk] at hf
theorem keyOf_two {P : Program} {k t : TypeId} {f0 f1 : Field} (hk : P.underlying k = some (.struct #[f0, f1])) (h0 : f0.type = t ∧ f0.offset = 0) (h1 : f1.type = t ∧ f1.offset = 1) (ht : P.cellsOf t = 1) (hc : P.cellsOf k = 2) (hu : P.underlying t = some (.int .i64)) (hs : 1 ≤ P.types.size)
    {v : Value} {l : Lit} (h : keyOf P k v = some l) : ∃ k : K2, v = kv k.1 k.2 ∧ Wf k := by
  unfold keyOf at h
  rw [hk] at h
  simp only at h
  split at h
  · rename_i hf
    obtain ⟨c0, c1, rfl⟩ := agg_two hk hc (by simp only [Bool.and_eq_true] at hf; exact hf.2)
    obtain ⟨n, hn⟩ : ∃ n, P.types.size + 1 = n + 2 := ⟨P.types.size - 1, by omega⟩
    rw [hn] at h
    simp only [Option.map_eq_some_iff] at h
    obtain ⟨ls, h, _⟩ := h
    obtain ⟨⟨l1, e1⟩, ⟨l2, e2⟩⟩ := lits_two hk h0 h1 ht h
    obtain ⟨a, rfl, ha⟩ := lits_i64 hu e1
    obtain ⟨b, rfl, hb⟩ := lits_i64 hu e2
    exact ⟨(a, b), rfl, ha, hb⟩
  · cases h
theorem keyOf_inv {v : Value} {l : Lit} (h : keyOf Try.prog 33 v = some l) : ∃ k : K2, v = kv k.1 k.2 ∧ Wf k ∧ l = kLit k := by
  obtain ⟨k, rfl, hk⟩ := keyOf_two Try.underlying33 ⟨rfl, rfl⟩ ⟨rfl, rfl⟩ cellsI64 cellsKey Try.underlying2 (Nat.lt_of_le_of_lt (Nat.zero_le _) rowKey) h
  exact ⟨k, rfl, hk, Option.some.inj (h.symm.trans (keyOf_kv hk))⟩

/-- Every value reads as the same. -/
def R0 (_ : Value) : Option (DataW Unit × List MemPlace) := some (.nil, [])
theorem kv_inj {a b : K2} (h : kv a.1 a.2 = kv b.1 b.2) : a = b := by
  obtain ⟨a1, a2⟩ := a; obtain ⟨b1, b2⟩ := b
  simpa using h
/-- Block b is a map by keys, of at most n entries, with f at each key. -/
def MapF (b n : Nat) (f : K2 → Option Value) (w : World) : Prop :=
  ∃ es clock, w.heap[b]? = some (.map es clock) ∧ Fit Try.prog 33 R0 es clock ∧ es.size ≤ n ∧ (∀ e ∈ es.toList, ∃ k : K2, e.key = kv k.1 k.2 ∧ f k = some e.val) ∧ ∀ k v, f k = some v → ∃ e ∈ es.toList, e.key = kv k.1 k.2 ∧ e.val = v
theorem MapF.lt {b n : Nat} {f : K2 → Option Value} {w : World} (h : MapF b n f w) : b < w.heap.size := by
  obtain ⟨es, clock, hb, _⟩ := h
  exact (Array.getElem?_eq_some_iff.1 hb).1
theorem MapF.kept {b n : Nat} {f : K2 → Option Value} {w w' : World} (h : MapF b n f w) (hb : w'.heap[b]? = w.heap[b]?) : MapF b n f w' := by
  obtain ⟨es, clock, h1, rest⟩ := h
  exact ⟨es, clock, hb.trans h1, rest⟩
theorem MapF.made (w : World) : MapF w.heap.size 0 (fun _ => none) (w.alloc (.map #[] 0)) :=
  ⟨#[], 0, (MapKept.heap_alloc w _).1, ⟨by simp, MapKept.stamped_empty 0, by simp⟩, Nat.le_refl _, by simp, by simp⟩
/-- f with v at k. -/
def putF (f : K2 → Option Value) (k : K2) (v : Value) : K2 → Option Value := fun x => if x = k then some v else f x
theorem MapF.look {t e : TypeId} {z : Value} {b n : Nat} {f : K2 → Option Value} {w : World} (h : MapF b n f w) (c : Bool) (ht : Try.prog.underlying t = some (.map 33 e)) (hz : (zeroValue e).run Try.prog w = .ok z w) {k : K2} (hk : Wf k) :
    (Instr.lookup t (.map (some b)) (kv k.1 k.2) c).run Try.prog w = .ok (if c then .tuple #[(f k).getD z, .bool (f k).isSome] else (f k).getD z) w := by
  obtain ⟨es, clock, hb, F, _, h1, h2⟩ := h
  rcases Maps.fit_look c keyedK ht hz hb F (keyOf_kv hk) with ⟨hrun, hno, _⟩ | ⟨e0, y, hm, hek, hrun, _⟩
  · have hf : f k = none := by
      cases hf : f k with
      | none => rfl
      | some v =>
        obtain ⟨e, he, hek, _⟩ := h2 k v hf
        exact absurd hek (hno e he)
    rw [hrun, hf]
    rfl
  · have hf : f k = some e0.val := by
      obtain ⟨k', hk', hf⟩ := h1 e0 hm
      have : k = k' := kv_inj (hek.symm.trans hk')
      rw [this]; exact hf
    rw [hrun, hf]
    rfl
theorem setBlock_grown {w : World} {b : Nat} {es : Array MapEntry} {clock : Nat} {o' : Obj} (hb : w.heap[b]? = some (.map es clock)) : w.grownBy (setBlock w b o') (some b) :=
  ⟨rfl, rfl, rfl, by simp [setBlock], fun i _ hi => heap_setBlock_other hb _ (fun e => hi (by rw [e]))⟩
theorem setBlock_inj {w : World} {b : Nat} {es : Array MapEntry} {clock : Nat} {o1 o2 : Obj} (hb : w.heap[b]? = some (.map es clock)) (h : setBlock w b o1 = setBlock w b o2) : o1 = o2 := by
  have h1 := heap_setBlock_same hb o1
  have h2 := heap_setBlock_same hb o2
  rw [h] at h1
  exact Option.some.inj (h1.symm.trans h2)
theorem store_es {P : Program} {t k e : TypeId} (K : Keyed P k) (ht : P.underlying t = some (.map k e)) {b : Nat} {es : Array MapEntry} {clock : Nat} {w : World} (hb : w.heap[b]? = some (.map es clock)) (hks : ∀ x ∈ es.toList, ∃ l, keyOf P k x.key = some l)
    {key : Value} {kl : Lit} (hkey : keyOf P k key = some kl) (val : Value) : ∃ es' clock', (Instr.mapUpdate t (.map (some b)) key val).run P w = .ok () (setBlock w b (.map es' clock')) ∧ es'.size ≤ es.size + 1 ∧ (∃ x ∈ es'.toList, x.key = key ∧ x.val = val) ∧ ∀ x ∈ es.toList, x.key ≠ key → x ∈ es'.toList := by
  rcases K.find w hkey es.toList hks with ⟨h1, h2⟩ | ⟨j, e0, h1, h2, h3⟩
  · refine ⟨es.push ⟨key, val, clock⟩, clock + 1, ?_, by simp, ⟨⟨key, val, clock⟩, by simp, rfl, rfl⟩, fun x hx _ => by simp [hx]⟩
    simp [Instr.mapUpdate, run_underlying ht, MapKept.run_getObj_map hb, K.check w false hkey, h1, MapKept.run_setObj_map _ hb, Result.andThen, setBlock]
  · have hj : es[j]? = some e0 := by simpa using h2
    have hlist : (es.modify j (fun e' => { e' with key := key, val := val })).toList = es.toList.set j { e0 with key := key, val := val } := by rw [Array.toList_modify, ChangeMaps.modify_eq_set _ _ _ _ h2]
    have hjl : j < es.toList.length := (List.getElem?_eq_some_iff.1 h2).1
    refine ⟨es.modify j (fun e' => { e' with key := key, val := val }), clock, ?_, by simp, ⟨{ e0 with key := key, val := val }, ?_, rfl, rfl⟩, fun x hx hne => ?_⟩
    · simp [Instr.mapUpdate, run_underlying ht, MapKept.run_getObj_map hb, K.check w false hkey, h1, hj, h3, K.stays w hkey, MapKept.run_setObj_map _ hb, Result.andThen, setBlock]
    · rw [hlist]
      exact List.mem_iff_getElem.2 ⟨j, by simpa using hjl, by simp⟩
    · rw [hlist]
      obtain ⟨i, hi, rfl⟩ := List.getElem_of_mem hx
      have hij : j ≠ i := fun e1 => by
        subst e1
        rw [List.getElem?_eq_getElem hi] at h2
        exact hne (by rw [Option.some.inj h2]; exact h3)
      exact List.mem_iff_getElem.2 ⟨i, by simpa using hi, by simp [hij]⟩
theorem MapF.store {t e : TypeId} {b n : Nat} {f : K2 → Option Value} {w : World} (h : MapF b n f w) (ht : Try.prog.underlying t = some (.map 33 e)) (hn : n < maxLen) {k : K2} (hk : Wf k) (v : Value) :
    ∃ es' clock', (Instr.mapUpdate t (.map (some b)) (kv k.1 k.2) v).run Try.prog w = .ok () (setBlock w b (.map es' clock')) ∧ ∀ w', w'.heap[b]? = some (.map es' clock') → MapF b (n + 1) (putF f k v) w' := by
  obtain ⟨es, clock, hb, F, hs, h1, h2⟩ := h
  obtain ⟨es1, clock1, hrun1, F1, _, _, _, hwho⟩ := Maps.fit_store (R' := R0) keyedK ht hb F (by omega) (fun _ _ _ z hz => hz) (keyOf_kv hk) (val := v) (yv := (.nil, [])) rfl
  obtain ⟨es2, clock2, hrun2, hsz, hin, hoth⟩ := store_es keyedK ht hb F.keys (keyOf_kv hk) v
  have e : setBlock w b (.map es1 clock1) = setBlock w b (.map es2 clock2) := by
    have := hrun1.symm.trans hrun2
    injection this
  have e := setBlock_inj hb e
  injection e with e e'
  subst e e'
  refine ⟨es1, clock1, hrun1, fun w' hw' => ⟨es1, clock1, hw', F1, by omega, fun x hx => ?_, fun k' v' hf => ?_⟩⟩
  · rcases hwho x hx with ⟨hx', hne⟩ | ⟨hxk, hxv⟩
    · obtain ⟨k', e1, e2⟩ := h1 x hx'
      refine ⟨k', e1, ?_⟩
      have : k' ≠ k := fun e => hne (by rw [e1, e])
      simp only [putF, this, if_false, e2]
    · exact ⟨k, hxk, by simp only [putF, if_true, hxv]⟩
  · by_cases e : k' = k
    · subst e
      simp only [putF, if_true, Option.some.injEq] at hf
      subst hf
      exact hin
    · simp only [putF, e, if_false] at hf
      obtain ⟨x, hx, e1, e2⟩ := h2 k' v' hf
      exact ⟨x, hoth x hx (fun e3 => e (kv_inj (e1.symm.trans e3))), e1, e2⟩
/-- m[k] = .. m[k] ..: what lies there comes out; what is then stored lies there. -/
theorem MapF.entry {t e : TypeId} {z : Value} {b n : Nat} {f : K2 → Option Value} {w : World} (h : MapF b n f w) (ht : Try.prog.underlying t = some (.map 33 e)) (hz : ∀ u : World, (zeroValue e).run Try.prog u = .ok z u) (hn : n < maxLen) {k : K2} (hk : Wf k) :
    ∃ (st : Nat) (w1 : World), (Instr.mapEntry t (.map (some b)) (kv k.1 k.2)).run Try.prog w = .ok (.tuple #[(f k).getD z, goInt st]) w1 ∧ w.grownBy w1 (some b) ∧
      ∀ (w2 : World) (val : Value), w2.heap[b]? = w1.heap[b]? → ∃ w3, (Instr.entryStore t (.map (some b)) (goInt st) val).run Try.prog w2 = .ok () w3 ∧ MapF b (n + 1) (putF f k val) w3 ∧ w2.grownBy w3 (some b) := by
  have h0 := h
  obtain ⟨es, clock, hb, F, hs, h1, h2⟩ := h
  obtain ⟨v0, st, es1, clock1, hrun, hv0, hback⟩ := Go.WideElems.entry_then_store lawK ht hz hb F (keyOf_kv hk)
  have hv : v0 = (f k).getD z := by
    rcases hv0 with ⟨e0, hm, hek, rfl⟩ | ⟨hno, rfl⟩
    · obtain ⟨k', e1, e2⟩ := h1 e0 hm
      have : k = k' := kv_inj (hek.symm.trans e1)
      rw [this, e2]; rfl
    · cases hf : f k with
      | none => rfl
      | some v =>
        obtain ⟨x, hx, e1, _⟩ := h2 k v hf
        exact absurd e1 (hno x hx)
  subst hv
  refine ⟨st, _, hrun, setBlock_grown hb, fun w2 val hw2 => ?_⟩
  rw [heap_setBlock_same hb] at hw2
  obtain ⟨es', clock', hr1, hr2⟩ := hback w2 val hw2
  obtain ⟨es2, clock2, hr3, hM⟩ := h0.store ht hn hk val
  have e : setBlock w b (.map es' clock') = setBlock w b (.map es2 clock2) := by
    have := hr2.symm.trans hr3
    injection this
  have e := setBlock_inj hb e
  injection e with e e'
  subst e e'
  exact ⟨_, hr1, hM _ (heap_setBlock_same hw2 _), setBlock_grown hw2⟩
end Go.Proofs.Ytkkjpkldfllfiaa
