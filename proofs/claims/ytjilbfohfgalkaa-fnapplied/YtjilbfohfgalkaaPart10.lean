/- Maps by keys, that a call makes: what lies at each key. -/
import Derived.Test.YtjilbfohfgalkaaPart9
import Derived.Maps.Own
import Derived.Maps.OwnSet
import Derived.WideKeyEntry
import Derived.DeepKeys4
import Derived.Test.YtjilbfohfgalkaaPart0
import Derived.Lib.SliceRun
import Derived.Shelf.SlSortCmp.NoneTotal
import Derived.Sort.OwnSorted
import Derived.Maps.RangeWalk
import Derived.Test.YtjilbfohfgalkaaPart3
import Derived.Test.YtjilbfohfgalkaaPart7
import Derived.Test.YtjilbfohfgalkaaPart4
import Derived.Test.YtjilbfohfgalkaaPart1
import Derived.Laws.AppendOwnNone
import Derived.Deep.RegionHeld3
namespace Go.Proofs.Ytjilbfohfgalkaa
open Go.RowKit
open Go.Maps (Keyed)
open Go.WideElems (Fit rd rg pl rd_val rd_key)
open Go.ChangeMaps (setBlock heap_setBlock_same heap_setBlock_other)

theorem laidOutM : laidOutB Try.prog = true := by kernel_rfl
theorem rowKey : (36 : TypeId) < Try.prog.types.size := of_decide_eq_true (by kernel_rfl)
theorem wideKey : (match Try.prog.underlying 36 with | some (.array _ _) | some (.struct _) => true | _ => false) = true := by rw [Try.underlying36]
set_option maxRecDepth 100000 in
theorem lawK : WideMaps.KeyLaw Try.prog 36 := deep_law_laid laidOutM (m := 2) (by omega) rowKey (by kernel_rfl) wideKey
theorem keyedK : Keyed Try.prog 36 := Keyed.of_law lawK
theorem keyTypeK : Try.prog.keyType 36 = true := by kernel_rfl
theorem cellsKey : Try.prog.cellsOf 36 = 2 := by kernel_rfl
theorem cellsI64 : Try.prog.cellsOf 2 = 1 := by kernel_rfl
abbrev wf64 (a : Int) : Prop := (Lit.int .i64 a).wf = true
/-- The key of a map. -/
abbrev kLit (k : K2) : Lit := .string (keyBytes [.int .i64 k.1, .int .i64 k.2])
def Wf (k : K2) : Prop := wf64 k.1 ∧ wf64 k.2
theorem wf_ok {a b : Int} (h : okK a b = true) : Wf (a, b) := by
  have := of_decide_eq_true h
  exact ⟨WalkArith.wf_i64 (by omega), WalkArith.wf_i64 (by omega)⟩
theorem keyOf_kv {k : K2} (h : Wf k) : keyOf Try.prog 36 (kv k.1 k.2) = some (kLit k) := by
  obtain ⟨h1, h2⟩ := h
  unfold keyOf
  rw [Try.underlying36]
  have hf : (kv k.1 k.2).formed Try.prog 36 = true := by simp [Value.formed, Try.underlying36, cellsKey]
  simp only [keyTypeK, hf, Bool.and_self, if_true]
  obtain ⟨n, hn⟩ : ∃ n, Try.prog.types.size + 1 = n + 2 := ⟨Try.prog.types.size - 1, by have h : (36 : Nat) < Try.prog.types.size := rowKey; omega⟩
  rw [hn]
  simp only [Program.keyLits, Try.underlying36, Value.cells, cellsKey]
  simp [Try.underlying2, cellsI64, h1, h2]
theorem lits_i64 {P : Program} {t : TypeId} (hu : P.underlying t = some (.int .i64)) {n : Nat} {c : Value} {ls : List Lit} (h : P.keyLits (n + 1) t [c] = some ls) : ∃ a, c = .int .i64 a ∧ wf64 a := by
  unfold Program.keyLits at h
  rw [hu] at h
  cases c with
  | int q a =>
    simp only at h
    split at h
    · rename_i hq
      exact ⟨a, by rw [hq.1], hq.2⟩
    · cases h
  | _ => simp at h
theorem lits_two {P : Program} {k t : TypeId} {f0 f1 : Field} (hk : P.underlying k = some (.struct #[f0, f1])) (h0 : f0.type = t ∧ f0.offset = 0) (h1 : f1.type = t ∧ f1.offset = 1) (ht : P.cellsOf t = 1) {n : Nat} {c0 c1 : Value} {ls : List Lit}
    (h : P.keyLits (n + 1) k [c0, c1] = some ls) : (∃ l, P.keyLits n t [c0] = some l) ∧ ∃ l, P.keyLits n t [c1] = some l := by
  unfold Program.keyLits at h
  rw [hk] at h
  simp only at h
  split at h
  · simp [h0, h1, ht] at h
    cases e1 : P.keyLits n t [c0] with
    | none => rw [e1] at h; cases h
    | some l1 =>
      cases e2 : P.keyLits n t [c1] with
      | none => rw [e1, e2] at h; cases h
      | some l2 => exact ⟨⟨l1, rfl⟩, ⟨l2, rfl⟩⟩
  · cases h
theorem agg_two {P : Program} {k : TypeId} {fs : Array Field} (hk : P.underlying k = some (.struct fs)) (hc : P.cellsOf k = 2) {v : Value} (hf : v.formed P k = true) : ∃ c0 c1, v = .agg #[c0, c1] := by
  cases v with
  | agg cs =>
    simp only [Value.formed, hk, hc, beq_iff_eq] at hf
    obtain ⟨l⟩ := cs
    match l, hf with
    | [c0, c1], _ => exact ⟨c0, c1, rfl⟩
  | _ => simp [Value.formed, hk] at hf
theorem keyOf_two {P : Program} {k t : TypeId} {f0 f1 : Field} (hk : P.underlying k = some (.struct #[f0, f1])) (h0 : f0.type = t ∧ f0.offset = 0) (h1 : f1.type = t ∧ f1.offset = 1) (ht : P.cellsOf t = 1) (hc : P.cellsOf k = 2) (hu : P.underlying t = some (.int .i64)) (hs : 1 ≤ P.types.size)
    {v : Value} {l : Lit} (h : keyOf P k v = some l) : ∃ k : K2, v = kv k.1 k.2 ∧ Wf k := by
  unfold keyOf at h
  rw [hk] at h
  simp only at h
  split at h
  · rename_i hf
    obtain ⟨c0, c1, rfl⟩ := agg_two hk hc (by simp only [Bool.and_eq_true] at hf; exact hf.2)
    obtain ⟨n, hn⟩ : ∃ n, P.types.size + 1 = n + 2 := ⟨P.types.size - 1, by omega⟩
    rw [hn] at h
    simp only [Option.map_eq_some_iff] at h
    obtain ⟨ls, h, _⟩ := h
    obtain ⟨⟨l1, e1⟩, ⟨l2, e2⟩⟩ := lits_two hk h0 h1 ht h
    obtain ⟨a, rfl, ha⟩ := lits_i64 hu e1
    obtain ⟨b, rfl, hb⟩ := lits_i64 hu e2
    exact ⟨(a, b), rfl, ha, hb⟩
  · cases h
theorem keyOf_inv {v : Value} {l : Lit} (h : keyOf Try.prog 36 v = some l) : ∃ k : K2, v = kv k.1 k.2 ∧ Wf k ∧ l = kLit k := by
  obtain ⟨k, rfl, hk⟩ := keyOf_two Try.underlying36 ⟨rfl, rfl⟩ ⟨rfl, rfl⟩ cellsI64 cellsKey Try.underlying2 (Nat.lt_of_le_of_lt (Nat.zero_le _) rowKey) h
  exact ⟨k, rfl, hk, Option.some.inj (h.symm.trans (keyOf_kv hk))⟩

/-- Every value reads as the same. -/
def R0 (_ : Value) : Option (DataW Unit × List MemPlace) := some (.nil, [])
theorem kv_inj {a b : K2} (h : kv a.1 a.2 = kv b.1 b.2) : a = b := by
  obtain ⟨a1, a2⟩ := a; obtain ⟨b1, b2⟩ := b
  simpa using h
/-- Block b is a map by keys, of at most n entries, with f at each key. -/
def MapF (b n : Nat) (f : K2 → Option Value) (w : World) : Prop :=
  ∃ es clock, w.heap[b]? = some (.map es clock) ∧ Fit Try.prog 36 R0 es clock ∧ es.size ≤ n ∧ (∀ e ∈ es.toList, ∃ k : K2, e.key = kv k.1 k.2 ∧ f k = some e.val) ∧ ∀ k v, f k = some v → ∃ e ∈ es.toList, e.key = kv k.1 k.2 ∧ e.val = v
theorem MapF.lt {b n : Nat} {f : K2 → Option Value} {w : World} (h : MapF b n f w) : b < w.heap.size := by
  obtain ⟨es, clock, hb, _⟩ := h
  exact (Array.getElem?_eq_some_iff.1 hb).1
theorem MapF.kept {b n : Nat} {f : K2 → Option Value} {w w' : World} (h : MapF b n f w) (hb : w'.heap[b]? = w.heap[b]?) : MapF b n f w' := by
  obtain ⟨es, clock, h1, rest⟩ := h
  exact ⟨es, clock, hb.trans h1, rest⟩
theorem MapF.made (w : World) : MapF w.heap.size 0 (fun _ => none) (w.alloc (.map #[] 0)) :=
  ⟨#[], 0, (MapKept.heap_alloc w _).1, ⟨by simp, MapKept.stamped_empty 0, by simp⟩, Nat.le_refl _, by simp, by simp⟩
/-- f with v at k. -/
def putF (f : K2 → Option Value) (k : K2) (v : Value) : K2 → Option Value := fun x => if x = k then some v else f x
theorem MapF.look {t e : TypeId} {z : Value} {b n : Nat} {f : K2 → Option Value} {w : World} (h : MapF b n f w) (c : Bool) (ht : Try.prog.underlying t = some (.map 36 e)) (hz : (zeroValue e).run Try.prog w = .ok z w) {k : K2} (hk : Wf k) :
    (Instr.lookup t (.map (some b)) (kv k.1 k.2) c).run Try.prog w = .ok (if c then .tuple #[(f k).getD z, .bool (f k).isSome] else (f k).getD z) w := by
  obtain ⟨es, clock, hb, F, _, h1, h2⟩ := h
  rcases Maps.fit_look c keyedK ht hz hb F (keyOf_kv hk) with ⟨hrun, hno, _⟩ | ⟨e0, y, hm, hek, hrun, _⟩
  · have hf : f k = none := by
      cases hf : f k with
      | none => rfl
      | some v =>
        obtain ⟨e, he, hek, _⟩ := h2 k v hf
        exact absurd hek (hno e he)
    rw [hrun, hf]
    rfl
  · have hf : f k = some e0.val := by
      obtain ⟨k', hk', hf⟩ := h1 e0 hm
      have : k = k' := kv_inj (hek.symm.trans hk')
      rw [this]; exact hf
    rw [hrun, hf]
    rfl
theorem setBlock_grown {w : World} {b : Nat} {es : Array MapEntry} {clock : Nat} {o' : Obj} (hb : w.heap[b]? = some (.map es clock)) : w.grownBy (setBlock w b o') (some b) :=
  ⟨rfl, rfl, rfl, by simp [setBlock], fun i _ hi => heap_setBlock_other hb _ (fun e => hi (by rw [e]))⟩
theorem setBlock_inj {w : World} {b : Nat} {es : Array MapEntry} {clock : Nat} {o1 o2 : Obj} (hb : w.heap[b]? = some (.map es clock)) (h : setBlock w b o1 = setBlock w b o2) : o1 = o2 := by
  have h1 := heap_setBlock_same hb o1
  have h2 := heap_setBlock_same hb o2
  rw [h] at h1
  exact Option.some.inj (h1.symm.trans h2)
theorem store_es {P : Program} {t k e : TypeId} (K : Keyed P k) (ht : P.underlying t = some (.map k e)) {b : Nat} {es : Array MapEntry} {clock : Nat} {w : World} (hb : w.heap[b]? = some (.map es clock)) (hks : ∀ x ∈ es.toList, ∃ l, keyOf P k x.key = some l)
    {key : Value} {kl : Lit} (hkey : keyOf P k key = some kl) (val : Value) : ∃ es' clock', (Instr.mapUpdate t (.map (some b)) key val).run P w = .ok () (setBlock w b (.map es' clock')) ∧ es'.size ≤ es.size + 1 ∧ (∃ x ∈ es'.toList, x.key = key ∧ x.val = val) ∧ ∀ x ∈ es.toList, x.key ≠ key → x ∈ es'.toList := by
  rcases K.find w hkey es.toList hks with ⟨h1, h2⟩ | ⟨j, e0, h1, h2, h3⟩
  · refine ⟨es.push ⟨key, val, clock⟩, clock + 1, ?_, by simp, ⟨⟨key, val, clock⟩, by simp, rfl, rfl⟩, fun x hx _ => by simp [hx]⟩
    simp [Instr.mapUpdate, run_underlying ht, MapKept.run_getObj_map hb, K.check w false hkey, h1, MapKept.run_setObj_map _ hb, Result.andThen, setBlock]
  · have hj : es[j]? = some e0 := by simpa using h2
    have hlist : (es.modify j (fun e' => { e' with key := key, val := val })).toList = es.toList.set j { e0 with key := key, val := val } := by rw [Array.toList_modify, ChangeMaps.modify_eq_set _ _ _ _ h2]
    have hjl : j < es.toList.length := (List.getElem?_eq_some_iff.1 h2).1
    refine ⟨es.modify j (fun e' => { e' with key := key, val := val }), clock, ?_, by simp, ⟨{ e0 with key := key, val := val }, ?_, rfl, rfl⟩, fun x hx hne => ?_⟩
    · simp [Instr.mapUpdate, run_underlying ht, MapKept.run_getObj_map hb, K.check w false hkey, h1, hj, h3, K.stays w hkey, MapKept.run_setObj_map _ hb, Result.andThen, setBlock]
    · rw [hlist]
      exact List.mem_iff_getElem.2 ⟨j, by simpa using hjl, by simp⟩
    · rw [hlist]
      obtain ⟨i, hi, rfl⟩ := List.getElem_of_mem hx
      have hij : j ≠ i := fun e1 => by
        subst e1
        rw [List.getElem?_eq_getElem hi] at h2
        exact hne (by rw [Option.some.inj h2]; exact h3)
      exact List.mem_iff_getElem.2 ⟨i, by simpa using hi, by simp [hij]⟩
theorem MapF.store {t e : TypeId} {b n : Nat} {f : K2 → Option Value} {w : World} (h : MapF b n f w) (ht : Try.prog.underlying t = some (.map 36 e)) (hn : n < maxLen) {k : K2} (hk : Wf k) (v : Value) :
    ∃ es' clock', (Instr.mapUpdate t (.map (some b)) (kv k.1 k.2) v).run Try.prog w = .ok () (setBlock w b (.map es' clock')) ∧ ∀ w', w'.heap[b]? = some (.map es' clock') → MapF b (n + 1) (putF f k v) w' := by
  obtain ⟨es, clock, hb, F, hs, h1, h2⟩ := h
  obtain ⟨es1, clock1, hrun1, F1, _, _, _, hwho⟩ := Maps.fit_store (R' := R0) keyedK ht hb F (by omega) (fun _ _ _ z hz => hz) (keyOf_kv hk) (val := v) (yv := (.nil, [])) rfl
  obtain ⟨es2, clock2, hrun2, hsz, hin, hoth⟩ := store_es keyedK ht hb F.keys (keyOf_kv hk) v
  have e : setBlock w b (.map es1 clock1) = setBlock w b (.map es2 clock2) := by
    have := hrun1.symm.trans hrun2
    injection this
  have e := setBlock_inj hb e
  injection e with e e'
  subst e e'
  refine ⟨es1, clock1, hrun1, fun w' hw' => ⟨es1, clock1, hw', F1, by omega, fun x hx => ?_, fun k' v' hf => ?_⟩⟩
  · rcases hwho x hx with ⟨hx', hne⟩ | ⟨hxk, hxv⟩
    · obtain ⟨k', e1, e2⟩ := h1 x hx'
      refine ⟨k', e1, ?_⟩
      have : k' ≠ k := fun e => hne (by rw [e1, e])
      simp only [putF, this, if_false, e2]
    · exact ⟨k, hxk, by simp only [putF, if_true, hxv]⟩
  · by_cases e : k' = k
    · subst e
      simp only [putF, if_true, Option.some.injEq] at hf
      subst hf
      exact hin
    · simp only [putF, e, if_false] at hf
      obtain ⟨x, hx, e1, e2⟩ := h2 k' v' hf
      exact ⟨x, hoth x hx (fun e3 => e (kv_inj (e1.symm.trans e3))), e1, e2⟩
/-- m[k] = .. m[k] ..: what lies there comes out; what is then stored lies there. -/
theorem MapF.entry {t e : TypeId} {z : Value} {b n : Nat} {f : K2 → Option Value} {w : World} (h : MapF b n f w) (ht : Try.prog.underlying t = some (.map 36 e)) (hz : ∀ u : World, (zeroValue e).run Try.prog u = .ok z u) (hn : n < maxLen) {k : K2} (hk : Wf k) :
    ∃ (st : Nat) (w1 : World), (Instr.mapEntry t (.map (some b)) (kv k.1 k.2)).run Try.prog w = .ok (.tuple #[(f k).getD z, goInt st]) w1 ∧ w.grownBy w1 (some b) ∧
      ∀ (w2 : World) (val : Value), w2.heap[b]? = w1.heap[b]? → ∃ w3, (Instr.entryStore t (.map (some b)) (goInt st) val).run Try.prog w2 = .ok () w3 ∧ MapF b (n + 1) (putF f k val) w3 ∧ w2.grownBy w3 (some b) := by
  have h0 := h
  obtain ⟨es, clock, hb, F, hs, h1, h2⟩ := h
  obtain ⟨v0, st, es1, clock1, hrun, hv0, hback⟩ := Go.WideElems.entry_then_store lawK ht hz hb F (keyOf_kv hk)
  have hv : v0 = (f k).getD z := by
    rcases hv0 with ⟨e0, hm, hek, rfl⟩ | ⟨hno, rfl⟩
    · obtain ⟨k', e1, e2⟩ := h1 e0 hm
      have : k = k' := kv_inj (hek.symm.trans e1)
      rw [this, e2]; rfl
    · cases hf : f k with
      | none => rfl
      | some v =>
        obtain ⟨x, hx, e1, _⟩ := h2 k v hf
        exact absurd e1 (hno x hx)
  subst hv
  refine ⟨st, _, hrun, setBlock_grown hb, fun w2 val hw2 => ?_⟩
  rw [heap_setBlock_same hb] at hw2
  obtain ⟨es', clock', hr1, hr2⟩ := hback w2 val hw2
  obtain ⟨es2, clock2, hr3, hM⟩ := h0.store ht hn hk val
  have e : setBlock w b (.map es' clock') = setBlock w b (.map es2 clock2) := by
    have := hr2.symm.trans hr3
    injection this
  have e := setBlock_inj hb e
  injection e with e e'
  subst e e'
  exact ⟨_, hr1, hM _ (heap_setBlock_same hw2 _), setBlock_grown hw2⟩
end Go.Proofs.Ytjilbfohfgalkaa
/- The contract of wrappedUnder: to each key the keys wrapped under it. -/
namespace Go.Proofs.Ytjilbfohfgalkaa
open Go.RowKit

/-- The keys wrapped under k, in their order. -/
def grp (ws : List W4) (k : K2) : List K2 := (ws.filter fun x => decide (wUnder x = k)).map wKey
theorem grp_append (a b : List W4) (k : K2) : grp (a ++ b) k = grp a k ++ grp b k := by simp [grp]
theorem grp_length (ws : List W4) (k : K2) : (grp ws k).length ≤ ws.length := by
  unfold grp
  rw [List.length_map]
  exact List.length_filter_le _ _
theorem mem_grp {ws : List W4} {k y : K2} : y ∈ grp ws k ↔ ∃ x ∈ ws, wUnder x = k ∧ wKey x = y := by
  simp only [grp, List.mem_map, List.mem_filter, decide_eq_true_eq]
  exact ⟨fun ⟨x, ⟨h1, h2⟩, h3⟩ => ⟨x, h1, h2, h3⟩, fun ⟨x, h1, h2, h3⟩ => ⟨x, ⟨h1, h2⟩, h3⟩⟩
/-- Block b is a map with the keys wrapped under each. -/
def Grp (b n : Nat) (ws : List W4) (w : World) : Prop := ∃ f, MapF b n f w ∧ (∀ k, f k = none → grp ws k = []) ∧ (∀ k v, f k = some v → Keys (b + 1) v (grp ws k) w) ∧
  ∀ k k' v v', f k = some v → f k' = some v' → k ≠ k' → v.ownBlock = none ∨ v.ownBlock ≠ v'.ownBlock
theorem Grp.below {b n : Nat} {ws : List W4} {w w' : World} (h : Grp b n ws w) (hb : Below w.heap.size w w') : Grp b n ws w' := by
  obtain ⟨f, h1, h2, h3, h4⟩ := h
  exact ⟨f, h1.kept (hb.block b h1.lt), h2, fun k v hf => (h3 k v hf).below hb (fun j e => ((h3 k v hf).lt j e).2), h4⟩
theorem Grp.made (w : World) : Grp w.heap.size 0 [] (w.alloc (.map #[] 0)) := ⟨fun _ => none, MapF.made w, fun _ _ => rfl, ⟨fun _ _ h => by simp at h, fun _ _ _ _ h => by simp at h⟩⟩
theorem zeroKeys (u : World) : (zeroValue 24).run Try.prog u = .ok (.slice none 0 0) u := by kernel_rfl
/-- One wrap more: what lies at its key, and the way back. -/
theorem Grp.entry {b n : Nat} {ws : List W4} {w : World} (h : Grp b n ws w) (hn : n < maxLen) (x : W4) (hx : Wf (wUnder x)) :
    ∃ (v : Value) (st : Nat) (w1 : World), (Instr.mapEntry 124 (.map (some b)) (kv x.1 x.2.1)).run Try.prog w = .ok (.tuple #[v, goInt st]) w1 ∧ w.grownBy w1 (some b) ∧ Keys (b + 1) v (grp ws (wUnder x)) w1 ∧
      ∀ (w2 : World) (v' : Value), w1.grownBy w2 v.ownBlock → Keys (b + 1) v' (grp ws (wUnder x) ++ [wKey x]) w2 → (v'.ownBlock = v.ownBlock ∨ ∃ g, v'.ownBlock = some g ∧ w1.heap.size ≤ g) →
        ∃ w3, (Instr.entryStore 124 (.map (some b)) (goInt st) v').run Try.prog w2 = .ok () w3 ∧ Grp b (n + 1) (ws ++ [x]) w3 ∧ w2.grownBy w3 (some b) := by
  obtain ⟨f, h1, h2, h3, h4⟩ := h
  have hblt := h1.lt
  obtain ⟨st, w1, hrun, hg1, hback⟩ := h1.entry Try.underlying124 zeroKeys hn hx
  have hnb : ∀ {B : Nat} {v : Value} {ks : List K2} {W : World}, Keys (b + 1) v ks W → v.ownBlock ≠ some b := fun hk e => by have := (hk.lt b e).1; omega
  have hk1 : Keys (b + 1) ((f (wUnder x)).getD (.slice none 0 0)) (grp ws (wUnder x)) w1 := by
    cases hf : f (wUnder x) with
    | none => rw [h2 _ hf]; exact World.ownsRow_nil _ _ _ _
    | some v => exact (h3 _ v hf).kept hg1 (fun k e => by cases e; exact hnb (B := 0) (h3 _ v hf))
  refine ⟨_, st, w1, hrun, hg1, hk1, fun w2 v' hg2 hk2 hloc => ?_⟩
  generalize hv : (f (wUnder x)).getD (.slice none 0 0) = v at hk1 hg2 hloc
  obtain ⟨w3, hr, hM, hg3⟩ := hback w2 v' (hg2.block b (by have := hg1.size; omega) (fun e => hnb (B := 0) hk1 e.symm))
  refine ⟨w3, hr, ⟨putF f (wUnder x) v', hM, fun k hf => ?_, fun k u hf => ?_, ?_⟩, hg3⟩
  · have hne : ¬ k = wUnder x := fun e => by simp [putF, e] at hf
    simp only [putF, hne, if_false] at hf
    have hne' : ¬ wUnder x = k := fun e => hne e.symm
    rw [grp_append, h2 k hf]
    simp [grp, hne']
  · by_cases e : k = wUnder x
    · subst e
      simp only [putF, if_true, Option.some.injEq] at hf
      subst hf
      have : grp (ws ++ [x]) (wUnder x) = grp ws (wUnder x) ++ [wKey x] := by rw [grp_append]; simp [grp]
      rw [this]
      exact hk2.kept hg3 (fun j e => by cases e; exact hnb (B := 0) hk2)
    · simp only [putF, e, if_false] at hf
      have hne' : ¬ wUnder x = k := fun e' => e e'.symm
      have : grp (ws ++ [x]) k = grp ws k := by rw [grp_append]; simp [grp, hne']
      rw [this]
      have k1 := (h3 k u hf).kept hg1 (fun j e => by cases e; exact hnb (B := 0) (h3 k u hf))
      have k2 : Keys (b + 1) u (grp ws k) w2 := k1.kept hg2 (fun j ej => by
        cases hfx : f (wUnder x) with
        | none => rw [hfx] at hv; rw [← hv] at ej; cases ej
        | some v0 =>
          rw [hfx] at hv
          simp only [Option.getD_some] at hv
          subst hv
          rcases h4 k (wUnder x) u v0 hf hfx e with h | h
          · rw [h]; simp
          · rw [← ej]; exact h)
      exact k2.kept hg3 (fun j ej => by cases ej; exact hnb (B := 0) k2)
  · -- apart
    have apart1 : ∀ k u, f k = some u → k ≠ wUnder x → u.ownBlock = none ∨ u.ownBlock ≠ v'.ownBlock := fun k u hf hne => by
      rcases hloc with e | ⟨g, e, hge⟩
      · rw [e]
        cases hfx : f (wUnder x) with
        | none =>
          rw [hfx] at hv
          rw [← hv]
          cases hu : u.ownBlock with
          | none => exact .inl rfl
          | some j => exact .inr (by simp [Value.ownBlock])
        | some v0 =>
          rw [hfx] at hv
          simp only [Option.getD_some] at hv
          subst hv
          exact h4 k (wUnder x) u v0 hf hfx hne
      · cases hu : u.ownBlock with
        | none => exact .inl rfl
        | some j =>
          refine .inr ?_
          rw [e]
          intro ej
          have := ((h3 k u hf).lt j hu).2
          have := hg1.size
          injection ej with ej
          omega
    intro k k' u u' hf hf' hne
    by_cases e : k = wUnder x
    · subst e
      have e' : ¬ k' = wUnder x := fun e' => hne e'.symm
      simp only [putF, if_true, Option.some.injEq] at hf
      simp only [putF, e', if_false] at hf'
      subst hf
      rcases apart1 k' u' hf' e' with h | h
      · cases hu : v'.ownBlock with
        | none => exact .inl rfl
        | some j => exact .inr (by rw [h]; simp)
      · exact .inr (fun e => h e.symm)
    · simp only [putF, e, if_false] at hf
      by_cases e' : k' = wUnder x
      · subst e'
        simp only [putF, if_true, Option.some.injEq] at hf'
        subst hf'
        exact apart1 k u hf e
      · simp only [putF, e', if_false] at hf'
        exact h4 k k' u u' hf hf' hne

theorem wpList_entry_grp {w : World} {ops : Array Oper} {rest : List Oper} {o : Oper} {a : Act} {Q : Exit → Act → World → Prop} (hg : o.guard = none) (m x : Operand) (hop : o.op = .mapEntry 124 m x)
    (b n : Nat) (ws : List W4) (y : W4) (hm : a.eval m = .map (some b)) (hx : a.eval x = kv y.1 y.2.1) (hG : Grp b n ws w) (hn : n < maxLen) (hy : Wf (wUnder y))
    (h : ∀ (v : Value) (st : Nat) (w1 : World), w.grownBy w1 (some b) → Keys (b + 1) v (grp ws (wUnder y)) w1 →
      (∀ (w2 : World) (v' : Value), w1.grownBy w2 v.ownBlock → Keys (b + 1) v' (grp ws (wUnder y) ++ [wKey y]) w2 → (v'.ownBlock = v.ownBlock ∨ ∃ g, v'.ownBlock = some g ∧ w1.heap.size ≤ g) →
        ∃ w3, (Instr.entryStore 124 (.map (some b)) (goInt st) v').run Try.prog w2 = .ok () w3 ∧ Grp b (n + 1) (ws ++ [y]) w3 ∧ w2.grownBy w3 (some b)) →
      wpList Try.prog ops Q rest (a.put o.dst (.tuple #[v, .int .i64 st])) w1) : wpList Try.prog ops Q (o :: rest) a w := by
  obtain ⟨v, st, w1, hrun, h1, h2, h3⟩ := hG.entry hn y hy
  refine wpList_plain hg fun K' hK' => ?_
  unfold Oper.wp
  simp [execOp, hop, hm, hx, hrun, Result.andThen]
  exact hK' _ _ (h v st w1 h1 h2 h3)
theorem wpList_entryStore_run {w w3 : World} {ops : Array Oper} {rest : List Oper} {o : Oper} {a : Act} {Q : Exit → Act → World → Prop} (hg : o.guard = none) (t : TypeId) (m x y : Operand) (hop : o.op = .entryStore t m x y)
    (mv xv yv : Value) (hm : a.eval m = mv) (hx : a.eval x = xv) (hy : a.eval y = yv) (hrun : (Instr.entryStore t mv xv yv).run Try.prog w = .ok () w3) (h : wpList Try.prog ops Q rest (a.put o.dst undef) w3) : wpList Try.prog ops Q (o :: rest) a w := by
  refine wpList_plain hg fun K' hK' => ?_
  unfold Oper.wp
  simp [execOp, hop, hm, hx, hy, hrun, Result.andThen]
  exact hK' _ _ h
theorem wpList_append_key {w : World} {ops : Array Oper} {rest : List Oper} {o : Oper} {a : Act} {Q : Exit → Act → World → Prop} (hgd : o.guard = none) (s x : Operand)
    (ho : o.op = .call { callee := .builtin .append, args := #[s, x], argTypes := #[24, 24] })
    (base : Nat) (v : Value) (ls : List K2) (hs : a.eval s = v) (hown : Keys base v ls w) (g : Nat) (y1 y2 : Int) (hx : a.eval x = .slice (some ⟨g, 0, none⟩) 1 1)
    (hnews : ∀ j u, [Value.int .i64 y1, .int .i64 y2][j]? = some u → w.cell? ((⟨g, 0, none⟩ : Addr).add j) = some u) (hm : ls.length ≤ 1000000) (hbase : base ≤ w.heap.size)
    (h : ∀ v' w', Keys base v' (ls ++ [(y1, y2)]) w' → w.grownBy w' v.ownBlock → (v'.ownBlock = v.ownBlock ∨ v'.ownBlock = some w.heap.size) → wpList Try.prog ops Q rest (a.put o.dst v') w') : wpList Try.prog ops Q (o :: rest) a w := by
  obtain ⟨i0, hi, hz0, hz1, hz2⟩ := info_parts infoKey
  refine wpList_append_own_at _ hgd s x _ ho base 36 i0 (.agg #[.int .i64 0, .int .i64 0]) 2 16 Try.underlying24 hi hz0 hz1 hz2 rfl (by decide) v _ _ hs hown ⟨g, 0, none⟩ 1 1 [.int .i64 y1, .int .i64 y2] hx rfl hnews (by simp [Value.oneCell']) (by unfold maxLen; omega) (by omega) hbase ?_
  intro v' w' h1 h2 _ h4
  refine h v' w' ?_ h2 h4
  unfold Keys
  rw [List.length_append, kcells_append]
  exact h1
theorem news_kept {w w1 : World} {b : Nat} {x y : Int} {t : TypeId} (h : (w.alloc (.cells #[.int .i64 x, .int .i64 y] t)).grownBy w1 (some b)) (hb : b < w.heap.size) : ∀ j u, [Value.int .i64 x, .int .i64 y][j]? = some u → w1.cell? ((⟨w.heap.size, 0, none⟩ : Addr).add j) = some u := fun j u hu =>
  h.cell (cell_two_new w x y t j u hu) (by rw [Addr.add_mid]; intro e; injection e with e; simp only at e; omega)

set_option maxRecDepth 100000 in
set_option maxHeartbeats 2000000 in
theorem wrappedUnder_any (wx : Value) (ws : List W4) (w : World) (hw : WArg wx ws w) (hws : ws.length ≤ 400) (hwf : ∀ x ∈ ws, Wf (wUnder x)) :
    Calls Try.prog 87 #[wx] w fun e w' => ∃ b n, e = .returned (.map (some b)) ∧ w.heap.size ≤ b ∧ Grp b n ws w' ∧ Below w.heap.size w w' := by
  have HW : Hid (WArg wx ws w) := hw
  clear hw
  obtain ⟨n, hn⟩ : ∃ n, ws.length = n := ⟨_, rfl⟩
  obtain ⟨aw, cw, hwx⟩ : ∃ aw cw, wx = .slice aw n cw := by
    rcases HW.out with ⟨h, h2⟩ | ⟨g, c, h, _⟩
    · exact ⟨none, 0, by rw [h, ← hn, h2]; rfl⟩
    · exact ⟨_, c, by rw [h, hn]⟩
  subst hwx
  have hmm := @run_makeMap Try.prog
  have HG : Hid (Grp w.heap.size 0 (ws.take 0) (w.alloc (.map #[] 0)) ∧ Below w.heap.size w (w.alloc (.map #[] 0))) := ⟨by rw [List.take_zero]; exact Grp.made w, one_below _ _⟩
  go_enter Try.func87, Try.ntmps87
  go_wp2
  go_loopw [9] (fun i wr => ∃ k : Nat, k ≤ n ∧ i = .int .i64 k ∧ Hid (Grp w.heap.size k (ws.take k) wr ∧ Below w.heap.size w wr)) (fun i _ => n - (intOf i).toNat)
  case atStart => exact ⟨0, Nat.zero_le _, rfl, HG⟩
  case round =>
    obtain ⟨k, hk, rfl, HI⟩ := hrel
    clear HG
    by_cases hlt : k < n
    · have hlk : k < ws.length := by omega
      obtain ⟨gw, haw, hgw, hwseg⟩ : ∃ gw, aw = some ⟨gw, 0, none⟩ ∧ gw < w.heap.size ∧ WSeg gw 0 ws w := by
        rcases HW.out with ⟨_, e⟩ | ⟨gw, c, e, e1, _, e2⟩
        · rw [e] at hlk; simp at hlk
        · injection e with e; exact ⟨gw, e, e1, e2⟩
      subst haw
      obtain ⟨a1, a2, a3, a4⟩ := hwseg k hlk
      simp only [Nat.zero_add] at a1 a2 a3 a4
      have hxm : ws[k] ∈ ws := List.getElem_mem hlk
      have hwfx := hwf _ hxm
      have HT : Hid (ws.take (k + 1) = ws.take k ++ [ws[k]]) := List.take_succ_eq_append_getElem hlk
      obtain ⟨u1, u2, k1, k2, hX⟩ : ∃ u1 u2 k1 k2, ws[k] = (u1, u2, k1, k2) := ⟨_, _, _, _, rfl⟩
      rw [hX] at a1 a2 a3 a4 hwfx HT
      have o4 := HI.out.2
      have c1 := (o4.cell (p := ⟨gw, k * 4, none⟩) hgw).trans a1
      have c2 := (o4.cell (p := ⟨gw, k * 4 + 1, none⟩) hgw).trans a2
      have c3 := (o4.cell (p := ⟨gw, k * 4 + 2, none⟩) hgw).trans a3
      have c4 := (o4.cell (p := ⟨gw, k * 4 + 3, none⟩) hgw).trans a4
      have hgr : (grp (ws.take k) (u1, u2)).length ≤ k := by have := grp_length (ws.take k) (u1, u2); simp at this; omega
      have hsz := o4.size
      have hbl := HI.out.1
      have hblt : w.heap.size < wr.heap.size := by obtain ⟨f, h, _⟩ := hbl; exact h.lt
      clear hwseg a1 a2 a3 a4 hX hxm o4 hbl
      go_wp2_with (first
        | (refine wpList_entry_grp rfl _ _ rfl w.heap.size k (ws.take k) (u1, u2, k1, k2) rfl rfl (HI.out.1.below (two_below _ _ _)) (by unfold maxLen; omega) hwfx ?_; intro v st w1 g1 own1 hback; have hnw := news_kept g1 (by simp; omega); rw [show (wr.alloc (wb u1 u2 k1 k2)).heap.size = wr.heap.size + 1 by simp] at hnw; have hbs : w.heap.size + 1 ≤ w1.heap.size := (by have := g1.size; simp at this; omega); have hB1 : Hid (Below w.heap.size w w1) := ((HI.out.2.alloc hsz _).alloc (by simp; omega) _).grown g1 (by simp; omega) (fun j e => by cases e; exact Nat.le_refl _); clear g1)
        | (at_builtin; refine wpList_append_key rfl _ _ rfl (w.heap.size + 1) v (grp (ws.take k) (u1, u2)) rfl own1 _ k1 k2 rfl hnw (by omega) hbs ?_; intro v2 w2 own2 gr2 loc2; obtain ⟨w3, hr3, hG3, g3⟩ := hback w2 v2 gr2 own2 (loc2.imp id fun e => ⟨_, e, Nat.le_refl _⟩); have hB3 : Hid (Below w.heap.size w w3) := (hB1.out.grown gr2 (by omega) (fun j e => by have := (own1.lt j e).1; omega)).grown g3 (by have := gr2.size; omega) (fun j e => by cases e; exact Nat.le_refl _); have hG4 : Hid (Grp w.heap.size (k + 1) (ws.take (k + 1)) w3) := (by rw [HT.out]; exact hG3); clear hG3 g3 gr2 loc2 own2 hback)
        | (refine wpList_entryStore_run rfl _ _ _ _ rfl _ _ _ rfl rfl rfl hr3 ?_))
      go_roundw
      case rel => exact ⟨k + 1, by omega, by go_num, hG4.out, hB3.out⟩
      case measure => simp [intOf]; omega
    · go_wp2
      go_ret
      exact ⟨_, _, rfl, Nat.le_refl _, (by have e : ws.take k = ws := List.take_of_length_le (by omega); have := HI.out.1; rw [e] at this; exact this), HI.out.2⟩
end Go.Proofs.Ytjilbfohfgalkaa
/- The contract of learnedSet: just what can be learned. -/
namespace Go.Proofs.Ytjilbfohfgalkaa
open Go.RowKit

abbrev unitV : Value := .agg #[]
/-- The map of a set. -/
def setF (st : List K2) : K2 → Option Value := fun k => if k ∈ st then some unitV else none
theorem putF_setF (st : List K2) (k : K2) : putF (setF st) k unitV = setF (k :: st) := by
  funext x
  by_cases h : x = k
  · simp [putF, setF, h]
  · simp [putF, setF, h]
/-- How many wraps stand under a key that is not in the set. -/
def pend (ws : List W4) (st : List K2) : Nat := (ws.filter fun x => decide (wUnder x ∉ st)).length
theorem pend_le (ws : List W4) (st : List K2) : pend ws st ≤ ws.length := List.length_filter_le _ _
theorem pend_put (ws : List W4) (st : List K2) (k : K2) (hk : k ∉ st) : pend ws (k :: st) + (grp ws k).length = pend ws st := by
  unfold pend grp
  rw [List.length_map]
  induction ws with
  | nil => rfl
  | cons a l ih =>
    by_cases h : wUnder a = k
    · have h1 : ¬ wUnder a ∉ k :: st := by simp [h]
      have h2 : wUnder a ∉ st := by rw [h]; exact hk
      rw [List.filter_cons_of_neg (by simpa using h1), List.filter_cons_of_pos (by simpa using h), List.filter_cons_of_pos (by simpa using h2)]
      simp only [List.length_cons]
      omega
    · rw [List.filter_cons_of_neg (p := fun x => decide (wUnder x = k)) (by simpa using h)]
      by_cases h2 : wUnder a ∉ st
      · have h1 : wUnder a ∉ k :: st := by simp only [List.mem_cons, not_or]; exact ⟨h, h2⟩
        rw [List.filter_cons_of_pos (by simpa using h1), List.filter_cons_of_pos (by simpa using h2)]
        simp only [List.length_cons]
        omega
      · have h1 : ¬ wUnder a ∉ k :: st := fun h => h2 fun m => h (List.mem_cons_of_mem _ m)
        rw [List.filter_cons_of_neg (by simpa using h1), List.filter_cons_of_neg (by simpa using h2)]
        exact ih
/-- The same, read off the world. -/
def inMap (w : World) (b : Nat) (k : K2) : Prop := ∃ es clock, w.heap[b]? = some (.map es clock) ∧ ∃ e ∈ es.toList, e.key = kv k.1 k.2
theorem MapF.inMap {b n : Nat} {st : List K2} {w : World} (h : MapF b n (setF st) w) (k : K2) : inMap w b k ↔ k ∈ st := by
  obtain ⟨es, clock, hb, _, _, h1, h2⟩ := h
  constructor
  · rintro ⟨es', clock', hb', e, he, hk⟩
    rw [hb] at hb'
    injection hb' with hb'
    injection hb' with h3 h4
    subst h3
    obtain ⟨k', e1, e2⟩ := h1 e he
    have : k = k' := kv_inj (hk.symm.trans e1)
    subst this
    by_cases hm : k ∈ st
    · exact hm
    · simp [setF, hm] at e2
  · intro hm
    obtain ⟨e, he, hk, _⟩ := h2 k unitV (by simp [setF, hm])
    exact ⟨es, clock, hb, e, he, hk⟩
open Classical in
/-- How many wraps are still to be opened can be read off the world. -/
theorem pendW_some (b : Nat) (ws : List W4) : ∃ f : World → Nat, ∀ (n : Nat) (st : List K2) (w : World), MapF b n (setF st) w → f w = pend ws st := by
  refine ⟨fun w => (ws.filter fun x => decide (¬ inMap w b (wUnder x))).length, fun n st w h => ?_⟩
  unfold pend
  show (ws.filter fun x => decide (¬ inMap w b (wUnder x))).length = _
  congr 1
  apply List.filter_congr
  intro x _
  have := h.inMap (wUnder x)
  by_cases hm : wUnder x ∈ st
  · simp [this.2 hm, hm]
  · have h2 : ¬ Proofs.Ytjilbfohfgalkaa.inMap w b (wUnder x) := fun h => hm (this.1 h)
    simp [h2, hm]

/-- What stands on the way. -/
structure Onway (ks : List K2) (ws : List W4) (st op : List K2) : Prop where
  nodup : st.Nodup
  lrnS : ∀ k ∈ st, Lrn ks ws k
  lrnO : ∀ k ∈ op, Lrn ks ws k
  known : ∀ k ∈ ks, k ∈ st ∨ k ∈ op
  closed : ∀ x ∈ ws, wUnder x ∈ st → wKey x ∈ st ∨ wKey x ∈ op
  few : st.length + op.length + pend ws st ≤ ks.length + ws.length
  wfO : ∀ k ∈ op, Wf k
theorem Onway.start {ks : List K2} {ws : List W4} (h : ∀ k ∈ ks, Wf k) : Onway ks ws [] ks :=
  ⟨List.nodup_nil, by simp, fun k h => Lrn.known k h, fun _ h => .inr h, by simp, by have := pend_le ws []; simp; omega, h⟩
theorem Onway.skip {ks : List K2} {ws : List W4} {st op : List K2} {k : K2} (h : Onway ks ws st (op ++ [k])) (hk : k ∈ st) : Onway ks ws st op := by
  have split : ∀ x, x ∈ st ∨ x ∈ op ++ [k] → x ∈ st ∨ x ∈ op := fun x hx => by
    rcases hx with hx | hx
    · exact .inl hx
    · rcases List.mem_append.1 hx with hx | hx
      · exact .inr hx
      · simp at hx; subst hx; exact .inl hk
  exact ⟨h.nodup, h.lrnS, fun x hx => h.lrnO x (List.mem_append_left _ hx), fun x hx => split x (h.known x hx), fun x hx hu => split _ (h.closed x hx hu), by have := h.few; simp at this; omega, fun x hx => h.wfO x (List.mem_append_left _ hx)⟩
theorem Onway.take {ks : List K2} {ws : List W4} {st op : List K2} {k : K2} (h : Onway ks ws st (op ++ [k])) (hk : k ∉ st) (hwf : ∀ x ∈ ws, Wf (wKey x)) : Onway ks ws (k :: st) (op ++ grp ws k) := by
  have hl : Lrn ks ws k := h.lrnO k (by simp)
  have split : ∀ x, x ∈ st ∨ x ∈ op ++ [k] → x ∈ k :: st ∨ x ∈ op ++ grp ws k := fun x hx => by
    rcases hx with hx | hx
    · exact .inl (List.mem_cons_of_mem _ hx)
    · rcases List.mem_append.1 hx with hx | hx
      · exact .inr (List.mem_append_left _ hx)
      · simp at hx; subst hx; exact .inl (by simp)
  refine ⟨List.nodup_cons.2 ⟨hk, h.nodup⟩, fun x hx => ?_, fun x hx => ?_, fun x hx => split x (h.known x hx), fun x hx hu => ?_, ?_, fun x hx => ?_⟩
  · rcases List.mem_cons.1 hx with e | e
    · rw [e]; exact hl
    · exact h.lrnS x e
  · rcases List.mem_append.1 hx with e | e
    · exact h.lrnO x (List.mem_append_left _ e)
    · obtain ⟨y, hy, h1, h2⟩ := mem_grp.1 e
      rw [← h2]
      exact Lrn.wrap y hy (by rw [h1]; exact hl)
  · rcases List.mem_cons.1 hu with e | e
    · exact .inr (List.mem_append_right _ (mem_grp.2 ⟨x, hx, e, rfl⟩))
    · exact split _ (h.closed x hx e)
  · have := h.few
    have := pend_put ws st k hk
    simp at this ⊢
    simp at *
    omega
  · rcases List.mem_append.1 hx with e | e
    · exact h.wfO x (List.mem_append_left _ e)
    · obtain ⟨y, hy, _, h2⟩ := mem_grp.1 e
      rw [← h2]; exact hwf y hy
theorem Onway.done {ks : List K2} {ws : List W4} {st : List K2} (h : Onway ks ws st []) (k : K2) : k ∈ st ↔ Lrn ks ws k := by
  refine ⟨h.lrnS k, fun l => ?_⟩
  exact l (fun k => k ∈ st) (fun k hk => by simpa using h.known k hk) (fun x hx ih => by simpa using h.closed x hx ih)

theorem kcells_take (ks : List K2) (m : Nat) : (kcells ks).take (m * 2) = kcells (ks.take m) := by
  induction ks generalizing m with
  | nil => simp [kcells]
  | cons k ks ih =>
    cases m with
    | zero => simp [kcells]
    | succ m =>
      have e : (m + 1) * 2 = m * 2 + 1 + 1 := by omega
      have := ih m
      rw [e]
      simpa [kcells] using this
theorem Keys.cut {B g cap : Nat} {ks : List K2} {n : Nat} {W : World} (h : Keys B (.slice (some ⟨g, 0, none⟩) n cap) ks W) (m : Nat) (hm : m ≤ ks.length) : Keys B (.slice (some ⟨g, 0, none⟩) m cap) (ks.take m) W := by
  have hl : (ks.take m).length = m := by simp; omega
  obtain ⟨_, h2⟩ := h
  rcases h2 with ⟨e, _⟩ | ⟨g', cap', cur, e, hb, hg, h1, h3, h4, h5⟩
  · cases e
  · injection e with e e1 e2
    injection e with e
    injection e with e
    subst e e2
    refine ⟨by rw [kcells_length], .inr ⟨g, cap, cur, by rw [hl], hb, hg, by omega, h3, h4, ?_⟩⟩
    rw [hl, ← kcells_take, ← h5, List.take_take, Nat.min_eq_left (by omega)]

theorem zeroUnit (u : World) : (zeroValue 126).run Try.prog u = .ok unitV u := by kernel_rfl
theorem wpList_lookup_run {w : World} {v : Value} {ops : Array Oper} {rest : List Oper} {o : Oper} {a : Act} {Q : Exit → Act → World → Prop} (hg : o.guard = none) (t : TypeId) (m x : Operand) (c : Bool) (hop : o.op = .lookup t m x c)
    (mv xv : Value) (hm : a.eval m = mv) (hx : a.eval x = xv) (hrun : (Instr.lookup t mv xv c).run Try.prog w = .ok v w) (h : wpList Try.prog ops Q rest (a.put o.dst v) w) : wpList Try.prog ops Q (o :: rest) a w := by
  refine wpList_plain hg fun K' hK' => ?_
  unfold Oper.wp
  simp [execOp, hop, hm, hx, hrun, Result.andThen]
  exact hK' _ _ h
theorem wpList_setPut {w : World} {ops : Array Oper} {rest : List Oper} {o : Oper} {a : Act} {Q : Exit → Act → World → Prop} (hg : o.guard = none) (m x v : Operand) (hop : o.op = .mapUpdate 107 m x v)
    (b n : Nat) (st : List K2) (k : K2) (hm : a.eval m = .map (some b)) (hx : a.eval x = kv k.1 k.2) (hv : a.eval v = unitV) (hM : MapF b n (setF st) w) (hn : n < maxLen) (hk : Wf k)
    (h : ∀ w', MapF b (n + 1) (setF (k :: st)) w' → w.grownBy w' (some b) → wpList Try.prog ops Q rest (a.put o.dst undef) w') : wpList Try.prog ops Q (o :: rest) a w := by
  obtain ⟨es', clock', hrun, hM'⟩ := hM.store Try.underlying107 hn hk unitV
  obtain ⟨es, clock, hb, _⟩ := hM
  refine wpList_plain hg fun K' hK' => ?_
  unfold Oper.wp
  simp [execOp, hop, hm, hx, hv, hrun, Result.andThen]
  exact hK' _ _ (h _ (by have := hM' _ (ChangeMaps.heap_setBlock_same hb _); rwa [putF_setF] at this) (setBlock_grown hb))

set_option maxRecDepth 100000 in
theorem clone_any (kx : Value) (ks : List K2) (w : World) (hk : KArg kx ks w) (hl : ks.length ≤ 100000) :
    Calls Try.prog 88 #[kx] w fun e w' => ∃ v, e = .returned v ∧ Keys w.heap.size v ks w' ∧ Below w.heap.size w w' := by
  have HK : Hid (KArg kx ks (w.alloc (.cells #[] 36))) := hk.below (one_below _ _)
  have hE := emptyK w w.heap.size (Nat.le_refl _)
  have heq := fun (a : Option Addr) (n c : Nat) (u : World) => Lib.run_eql_slice_nil (P := Try.prog) u 24 36 a n c 0 0 Try.underlying24
  rcases hk with ⟨rfl, rfl⟩ | ⟨g, c, rfl, hg, hc, hseg⟩
  · clear HK hE
    go_enter Try.func88, Try.ntmps88
    go_wp2
    go_ret
    exact ⟨_, rfl, World.ownsRow_nil _ _ _ _, Below.refl _ _⟩
  · clear hseg
    generalize hn : ks.length = n at HK hc hl
    go_enter Try.func88, Try.ntmps88
    go_wp2_with (at_builtin; refine wpList_append_keys rfl _ _ rfl w.heap.size (.slice (some ⟨w.heap.size, 0, none⟩) 0 0) _ [] ks rfl hE rfl HK.out (by simp; omega) (by simp) ?_; intro v1 w1 own1 gr1 nil1)
    go_ret
    exact ⟨_, rfl, by simpa using own1, ((Below.refl _ w).alloc (Nat.le_refl _) _).grown gr1 (by simp) (fun j e => by simp [Value.ownBlock] at e; omega)⟩
end Go.Proofs.Ytjilbfohfgalkaa
/- The walk of learnedSet. -/
namespace Go.Proofs.Ytjilbfohfgalkaa
open Go.RowKit

theorem MapF.alloc {b n : Nat} {f : K2 → Option Value} {w : World} (h : MapF b n f w) (o : Obj) : MapF b n f (w.alloc o) := h.kept ((MapKept.heap_alloc w o).2 b h.lt)
theorem Grp.look {b n : Nat} {ws : List W4} {w : World} (h : Grp b n ws w) {k : K2} (hk : Wf k) :
    ∃ v, (Instr.lookup 124 (.map (some b)) (kv k.1 k.2) false).run Try.prog w = .ok v w ∧ KArg v (grp ws k) w := by
  obtain ⟨f, h1, h2, h3, _⟩ := h
  refine ⟨_, h1.look false Try.underlying124 (zeroKeys w) hk, ?_⟩
  cases hf : f k with
  | none => rw [h2 k hf]; exact .inl ⟨rfl, rfl⟩
  | some v => exact (h3 k v hf).arg
/-- What is known of the world in a round of learnedSet. -/
def Rnd (w1 : World) (ks : List K2) (ws : List W4) (vo : Value) (st op : List K2) (W : World) : Prop :=
  Keys (w1.heap.size + 1) vo op W ∧ MapF w1.heap.size st.length (setF st) W ∧ Below w1.heap.size w1 W ∧ Onway ks ws st op

set_option maxRecDepth 100000 in
set_option maxHeartbeats 2000000 in
theorem learnedSet_any (kx wx : Value) (ks : List K2) (ws : List W4) (w : World) (hk : KArg kx ks w) (hw : WArg wx ws w) (hks : ks.length ≤ 200) (hws : ws.length ≤ 400)
    (hwk : ∀ k ∈ ks, Wf k) (hwu : ∀ x ∈ ws, Wf (wUnder x)) (hww : ∀ x ∈ ws, Wf (wKey x)) :
    Calls Try.prog 69 #[kx, wx] w fun e w' => ∃ b st, e = .returned (.map (some b)) ∧ w.heap.size ≤ b ∧ MapF b st.length (setF st) w' ∧ st.Nodup ∧ st.length ≤ 600 ∧ (∀ k, k ∈ st ↔ Lrn ks ws k) ∧ Below w.heap.size w w' := by
  have HW : Hid (WArg wx ws w) := hw
  have HK : Hid (KArg kx ks w) := hk
  clear hw hk
  have hmm := @run_makeMap Try.prog
  go_enter Try.func69, Try.ntmps69
  go_wp2_with fail
  refine (wrappedUnder_any wx ws w HW.out hws hwu).mono ?_
  rintro e w1 ⟨bu, nu, rfl, hbu, hG, hB⟩
  have HG : Hid (Grp bu nu ws w1) := hG
  have HB : Hid (Below w.heap.size w w1) := hB
  have hM0 : Hid (MapF w1.heap.size 0 (setF []) (w1.alloc (.map #[] 0))) := MapF.made w1
  have hs1 : w.heap.size ≤ w1.heap.size := hB.size
  clear hG hB
  go_wp2_with fail
  refine (clone_any kx ks _ ((HK.out.below HB.out).below (one_below _ _)) (by omega)).mono ?_
  rintro e w2 ⟨v2, rfl, hk2, hb2⟩
  simp only [World.size_alloc] at hk2 hb2
  have HR : Hid (Rnd w1 ks ws v2 [] ks w2) := ⟨hk2, hM0.out.kept (hb2.block _ (by omega)), (one_below w1 _).trans (hb2.mono (by omega)), Onway.start hwk⟩
  clear hk2 hb2 hM0
  obtain ⟨pf, HPF⟩ : ∃ f : World → Nat, Hid (∀ (n : Nat) (st : List K2) (w : World), MapF w1.heap.size n (setF st) w → f w = pend ws st) := pendW_some w1.heap.size ws
  go_wp2
  go_loopw [7] (fun vo wr => ∃ st op, Hid (Rnd w1 ks ws vo st op wr)) (fun vo wr => lenV vo + pf wr)
  case atStart => exact ⟨[], ks, HR⟩
  case round =>
    obtain ⟨st, op, HI⟩ := hrel
    clear HR
    rcases List.eq_nil_or_concat op with hnil | ⟨op1, ky, hop⟩
    · obtain ⟨o1, o2, o3, o4⟩ := HI.out
      subst hnil
      obtain ⟨a7, c7, h7⟩ : ∃ a c, u7 = .slice a 0 c := by
        rcases o1.form with ⟨e, _⟩ | ⟨g, c, e, _⟩
        · exact ⟨none, 0, e⟩
        · exact ⟨_, c, e⟩
      subst h7
      clear o1
      go_wp2
      go_ret
      exact ⟨_, st, rfl, hs1, o2, o4.nodup, by have := o4.few; simp at this; omega, o4.done, HB.out.trans (o3.mono hs1)⟩
    · rw [List.concat_eq_append] at hop
      subst hop
      obtain ⟨o1, o2, o3, o4⟩ := HI.out
      obtain ⟨x, y⟩ := ky
      obtain ⟨g, cap, hv, hBg, hgl, hoc, hcm, hseg, hfz⟩ : ∃ g cap, u7 = .slice (some ⟨g, 0, none⟩) (op1 ++ [(x, y)]).length cap ∧ w1.heap.size + 1 ≤ g ∧ g < wr.heap.size ∧ (op1 ++ [(x, y)]).length ≤ cap ∧ cap ≤ maxLen ∧ KSeg g 0 (op1 ++ [(x, y)]) wr ∧ True := by
        rcases o1.form with ⟨_, e⟩ | ⟨g, c, e, e1, e2, e3, e4, e5, _⟩
        · simp at e
        · exact ⟨g, c, e, e1, e2, e3, e4, e5, trivial⟩
      clear hfz
      unfold maxLen at hcm
      generalize hnl : (op1 ++ [(x, y)]).length = n at hv hoc
      have hn1 : n = op1.length + 1 := by rw [← hnl]; simp
      have hnp : 0 < n := by omega
      obtain ⟨a1, a2⟩ := hseg op1.length (by simp)
      have ex : (op1 ++ [(x, y)])[op1.length]'(by simp) = (x, y) := by simp
      rw [ex] at a1 a2
      have em : op1.length = n - 1 := by omega
      simp only [Nat.zero_add, em] at a1 a2
      have hwxy : Wf (x, y) := o4.wfO (x, y) (by simp)
      have hfew := o4.few
      rw [hnl] at hfew
      have hpn := HPF.out _ _ _ o2
      have hcut : Hid (Keys (w1.heap.size + 1) (.slice (some ⟨g, 0, none⟩) (n - 1) cap) op1 wr) := by
        have := (hv ▸ o1).cut op1.length (by simp)
        rw [em] at this
        rw [← em, List.take_left] at this
        rw [← em]
        exact this
      subst hv
      have HM : Hid (MapF w1.heap.size st.length (setF st) wr) := o2
      have HO : Hid (Onway ks ws st (op1 ++ [(x, y)])) := o4
      have HBr : Hid (Below w1.heap.size w1 wr) := o3
      have hs2 := o3.size
      have hml : w1.heap.size < wr.heap.size := o2.lt
      have HN : Hid (n = op1.length + 1) := hn1
      have HP : Hid (pf wr = pend ws st) := hpn
      clear hseg ex o1 o2 o3 o4 HI hn1 em hnl hpn
      by_cases hin : (x, y) ∈ st
      · have hL : (Instr.lookup 107 (.map (some w1.heap.size)) (kv x y) true).run Try.prog (wr.alloc (kb x y)) = .ok (.tuple #[unitV, .bool true]) (wr.alloc (kb x y)) := by
          have := (HM.out.alloc (kb x y)).look true Try.underlying107 (zeroUnit _) hwxy
          simpa [setF, hin] using this
        go_wp2
        go_roundw
        case rel => exact ⟨st, op1, hcut.out.below (two_below _ _ _) (fun j e => (hcut.out.lt j e).2), (HM.out.alloc _).alloc _, (HBr.out.alloc hs2 _).alloc (by simp; omega) _, HO.out.skip hin⟩
        case measure =>
          have e1 : pf ((wr.alloc (kb x y)).alloc (.cells #[] 126)) = pend ws st := HPF.out _ _ _ ((HM.out.alloc _).alloc _)
          simp only [lenV]
          rw [HP.out]
          simp only [e1]
          omega
      · have hL : (Instr.lookup 107 (.map (some w1.heap.size)) (kv x y) true).run Try.prog (wr.alloc (kb x y)) = .ok (.tuple #[unitV, .bool false]) (wr.alloc (kb x y)) := by
          have := (HM.out.alloc (kb x y)).look true Try.underlying107 (zeroUnit _) hwxy
          simpa [setF, hin] using this
        have hgl2 : (grp ws (x, y)).length ≤ 400 := by have := grp_length ws (x, y); omega
        go_wp2_with (first
          | (refine wpList_setPut rfl _ _ _ rfl w1.heap.size st.length st (x, y) rfl rfl rfl ((HM.out.alloc _).alloc _) (by unfold maxLen; omega) hwxy ?_; intro w3 hM3 g3; have hB3 : Below w1.heap.size w1 w3 := ((HBr.out.alloc hs2 _).alloc (by simp; omega) _).grown g3 (by simp; omega) (fun j e => by cases e; exact Nat.le_refl _); obtain ⟨vg, hLg, hKg⟩ := (HG.out.below hB3).look hwxy; have hc3 : Hid (Keys (w1.heap.size + 1) (.slice (some ⟨g, 0, none⟩) (n - 1) cap) op1 w3) := (hcut.out.below (two_below _ _ _) (fun j e => (hcut.out.lt j e).2)).kept g3 (fun j e e2 => by cases e; simp [Value.ownBlock] at e2; omega); have d0 : w3.cell? ⟨wr.heap.size, 0, none⟩ = some (.int .i64 x) := g3.cell (by simp) (by simp; omega); have d1 : w3.cell? ⟨wr.heap.size, 1, none⟩ = some (.int .i64 y) := g3.cell (by simp) (by simp; omega); have hs3 := hB3.size; have HB3 : Hid (Below w1.heap.size w1 w3) := hB3; have HM3 : Hid (MapF w1.heap.size (st.length + 1) (setF ((x, y) :: st)) w3) := hM3; have HKg : Hid (KArg vg (grp ws (x, y)) w3) := hKg; have hm3 := hM3.lt; clear hM3 g3 hB3 hKg)
          | (at_builtin; refine wpList_append_keys rfl _ _ rfl (w1.heap.size + 1) (.slice (some ⟨g, 0, none⟩) (n - 1) cap) vg op1 (grp ws (x, y)) rfl hc3.out rfl HKg.out (by have := HN.out; omega) (by omega) ?_; intro v4 w4 own4 gr4 nil4))
        have HM4 : Hid (MapF w1.heap.size (st.length + 1) (setF ((x, y) :: st)) w4) := HM3.out.kept (gr4.block _ (by omega) (by simp [Value.ownBlock]; omega))
        go_roundw
        case rel => exact ⟨(x, y) :: st, op1 ++ grp ws (x, y), own4, HM4.out, HB3.out.grown gr4 hs3 (fun j e => by simp [Value.ownBlock] at e; omega), HO.out.take hin hww⟩
        case measure =>
          have e1 := HPF.out _ _ _ HM4.out
          have e2 := pend_put ws st (x, y) hin
          have e3 : lenV v4 = (op1 ++ grp ws (x, y)).length := by
            rcases own4.form with ⟨e, e2⟩ | ⟨g, c, e, _⟩
            · rw [e, e2]; rfl
            · rw [e]; rfl
          have e4 := HN.out
          simp only [lenV]
          rw [HP.out]
          simp only [e1]
          rw [List.length_append] at e3
          simp only [lenV] at e3
          rw [e3]
          omega
end Go.Proofs.Ytjilbfohfgalkaa
/- slices.SortFunc on keys of the call's own, by compareKeys. -/
namespace Go.Proofs
open Go.Shelf Go.RowKit Go.Lib Go.Sort
def Try.sortKey_ren : Go.Shelf.Ren := ⟨fun | 6 => 89 | 15 => 94 | 14 => 93 | 28 => 104 | 29 => 105 | 20 => 96 | 21 => 97 | 22 => 98 | 23 => 99 | 24 => 100 | 25 => 101 | 26 => 102 | 27 => 103 | 46 => 106 | 47 => 107 | 48 => 108 | 49 => 109 | 50 => 110 | 57 => 111 | n => n, fun | 22 => 24 | 24 => 36 | 25 => 114 | 3 => 3 | 39 => 104 | 0 => 0 | 53 => 142 | 55 => 102 | 4 => 4 | 46 => 135 | 45 => 134 | 50 => 139 | 5 => 5 | 9 => 9 | 66 => 144 | 70 => 147 | 76 => 149 | 77 => 150 | n => n, fun | n => n⟩
theorem Try.sortKey : Go.Proofs.SlLaysF0.n6 Try.prog Try.sortKey_ren := {
  mixed := by kernel_rfl
  f6 := ⟨Try.f89.name, by decide, Try.func89.trans (congrArg some (by kernel_rfl))⟩
  f14 := ⟨Try.f93.name, by decide, Try.func93.trans (congrArg some (by kernel_rfl))⟩
  f15 := Try.func94.trans (congrArg some (by kernel_rfl))
  f20 := ⟨Try.f96.name, by decide, Try.func96.trans (congrArg some (by kernel_rfl))⟩
  f21 := ⟨Try.f97.name, by decide, Try.func97.trans (congrArg some (by kernel_rfl))⟩
  f22 := ⟨Try.f98.name, by decide, Try.func98.trans (congrArg some (by kernel_rfl))⟩
  f23 := ⟨Try.f99.name, by decide, Try.func99.trans (congrArg some (by kernel_rfl))⟩
  f24 := ⟨Try.f100.name, by decide, Try.func100.trans (congrArg some (by kernel_rfl))⟩
  f25 := ⟨Try.f101.name, by decide, Try.func101.trans (congrArg some (by kernel_rfl))⟩
  f26 := ⟨Try.f102.name, by decide, Try.func102.trans (congrArg some (by kernel_rfl))⟩
  f27 := ⟨Try.f103.name, by decide, Try.func103.trans (congrArg some (by kernel_rfl))⟩
  f28 := Try.func104.trans (congrArg some (by kernel_rfl))
  f29 := Try.func105.trans (congrArg some (by kernel_rfl))
  f46 := ⟨Try.f106.name, by decide, Try.func106.trans (congrArg some (by kernel_rfl))⟩
  f47 := Try.func107.trans (congrArg some (by kernel_rfl))
  f48 := Try.func108.trans (congrArg some (by kernel_rfl))
  f49 := ⟨Try.f109.name, by decide, Try.func109.trans (congrArg some (by kernel_rfl))⟩
  f50 := ⟨Try.f110.name, by decide, Try.func110.trans (congrArg some (by kernel_rfl))⟩
  f57 := ⟨Try.f111.name, by decide, Try.func111.trans (congrArg some (by kernel_rfl))⟩
  t0 := Try.underlying0
  a0 := Try.isAgg0
  z0 := Try.sizeOf0
  v0 := Try.zeroValue0
  t3 := Try.underlying3
  a3 := Try.isAgg3
  z3 := Try.sizeOf3
  v3 := Try.zeroValue3
  t4 := Try.underlying4
  a4 := Try.isAgg4
  z4 := Try.sizeOf4
  v4 := Try.zeroValue4
  t5 := Try.underlying5
  a5 := Try.isAgg5
  z5 := Try.sizeOf5
  v5 := Try.zeroValue5
  t9 := Try.underlying9
  a9 := Try.isAgg9
  z9 := Try.sizeOf9
  v9 := Try.zeroValue9
  t22 := Try.underlying24
  a22 := Try.isAgg24
  z22 := Try.sizeOf24
  v22 := Try.zeroValue24
  t25 := Try.underlying114
  a25 := Try.isAgg114
  z25 := Try.sizeOf114
  v25 := Try.zeroValue114
  t39 := Try.underlying104
  a39 := Try.isAgg104
  z39 := Try.sizeOf104
  v39 := Try.zeroValue104
  t45 := Try.underlying134
  a45 := Try.isAgg134
  z45 := Try.sizeOf134
  v45 := Try.zeroValue134
  t46 := Try.underlying135
  a46 := Try.isAgg135
  z46 := Try.sizeOf135
  v46 := Try.zeroValue135
  t50 := Try.underlying139
  a50 := Try.isAgg139
  z50 := Try.sizeOf139
  v50 := Try.zeroValue139
  t53 := Try.underlying142
  a53 := Try.isAgg142
  z53 := Try.sizeOf142
  v53 := Try.zeroValue142
  t55 := Try.underlying102
  a55 := Try.isAgg102
  z55 := Try.sizeOf102
  v55 := Try.zeroValue102
  t66 := Try.underlying144
  a66 := Try.isAgg144
  z66 := Try.sizeOf144
  v66 := Try.zeroValue144
  t70 := Try.underlying147
  a70 := Try.isAgg147
  z70 := Try.sizeOf147
  v70 := Try.zeroValue147
  t76 := Try.underlying149
  a76 := Try.isAgg149
  z76 := Try.sizeOf149
  v76 := Try.zeroValue149
  t77 := Try.underlying150
  a77 := Try.isAgg150
  z77 := Try.sizeOf150
  v77 := Try.zeroValue150 }
namespace Ytjilbfohfgalkaa

def encK (x : K2) : List Value := [.int .i64 x.1, .int .i64 x.2]
def cfK (x y : K2) : Int := cmpK x.1 x.2 y.1 y.2
theorem ltK (x y : K2) : ltOf cfK x y = aheadB x.1 x.2 y.1 y.2 := cmpK_neg _ _ _ _
theorem swoK : SWO (ltOf cfK) where
  irrefl x := by rw [ltK]; simp [aheadB]
  trans x y z h1 h2 := by rw [ltK] at *; simp [aheadB] at *; omega
  ntrans x y z h1 h2 := by rw [ltK] at *; simp [aheadB] at *; omega
theorem totK (x y : K2) (h1 : ltOf cfK x y = false) (h2 : ltOf cfK y x = false) : x = y := by
  rw [ltK] at h1 h2
  rcases Ah.tri x y with h | h | h
  · rw [(ah_iff x y).2 h] at h1; cases h1
  · exact h
  · rw [(ah_iff y x).2 h] at h2; cases h2
theorem cmpLaysK (blk off size : Nat) (w : World) : CmpLays Try.prog 77 #[] encK 2 cfK blk off size w :=
  fun _ _ _ _ x y => (compareKeys_any x.1 x.2 y.1 y.2 _).mono (by rintro e w' ⟨rfl, rfl⟩; exact ⟨rfl, 0, _, by rw [alloc_eq_grow, alloc_eq_grow, grow_grow]; rfl⟩)
theorem flat_kcells (ls : List K2) : (flatK encK 2 ls.toArray).toList = kcells ls := by
  apply List.ext_getElem?
  intro j
  by_cases hj : j < ls.length * 2
  · have hi : j / 2 < ls.length := by omega
    obtain ⟨e1, e2⟩ := kcells_get ls (j / 2) hi
    have hg : (flatK encK 2 ls.toArray).toList[j]? = some ((encK (ls.toArray[j / 2]!))[j % 2]!) := by
      simp [flatK, hj]
    rw [hg]
    have el : ls.toArray[j / 2]! = ls[j / 2] := by simp [hi]
    rw [el]
    have h2 : j = j / 2 * 2 ∨ j = j / 2 * 2 + 1 := by omega
    rcases h2 with e | e
    · have em : j % 2 = 0 := by omega
      rw [em]
      conv => rhs; rw [e]
      rw [e1]; rfl
    · have em : j % 2 = 1 := by omega
      rw [em]
      conv => rhs; rw [e]
      rw [e2]; rfl
  · rw [List.getElem?_eq_none (by simp; omega), List.getElem?_eq_none (by rw [kcells_length]; omega)]
theorem holdsKeys {w : World} {g : Nat} {ls : List K2} (h : KSeg g 0 ls w) (hf : ∀ o, w.frozen? ⟨g, o, none⟩ = false) : HoldsK encK 2 w g 0 ls.toArray := by
  intro j hj
  have hj' : j < ls.length * 2 := by simpa using hj
  refine ⟨?_, hf _⟩
  have e : (kcells ls)[j]? = some ((flatK encK 2 ls.toArray)[j]!) := by
    rw [← flat_kcells, Array.getElem?_toList, Array.getElem?_eq_getElem hj, getElem!_pos (flatK encK 2 ls.toArray) j hj]
  have := news_keys h j _ e
  rw [Addr.add_mid] at this
  exact this
theorem grownBy_sortedK {w : World} {g n : Nat} {os : Array Obj} (d : Array K2) : w.grownBy (sortWorldK encK 2 w g 0 n d os) (some g) := by
  refine ⟨rfl, rfl, rfl, by simp [sortWorldK, putRowK], fun k hk hne => ?_⟩
  unfold sortWorldK putRowK
  rw [heap_grow_old _ _ (by simpa using hk)]
  have : g ≠ k := fun e => hne (by rw [e])
  simp [putRow, mapBlock, Sort.ahead, Array.getElem?_modify, this]
theorem Keys.sorted {w : World} {B g cap n : Nat} {os : Array Obj} {ls ts : List K2} (h : Keys B (.slice (some ⟨g, 0, none⟩) ls.length cap) ls w) (hl : ts.length = ls.length) : Keys B (.slice (some ⟨g, 0, none⟩) ls.length cap) ts (sortWorldK encK 2 w g 0 n ts.toArray os) := by
  obtain ⟨_, h2⟩ := h
  rcases h2 with ⟨e, _⟩ | ⟨g', cap', cur, e, hb, hg, h1, h3, h4, h5⟩
  · cases e
  · injection e with e e1 e2
    injection e with e
    injection e with e
    subst e e2
    have hgl : g < w.heap.size := (Array.getElem?_eq_some_iff.1 hg).1
    refine ⟨by rw [kcells_length], .inr ⟨g, cap, putCells id 0 (flatK encK 2 ts.toArray) cur, by rw [hl], hb, ?_, by omega, h3, by simp [putCells, h4], ?_⟩⟩
    · unfold sortWorldK putRowK
      rw [heap_grow_old _ _ (by simpa using hgl)]
      simp [putRow, mapBlock, Sort.ahead, Array.getElem?_modify, hg, onCells]
    · rw [← flat_kcells]
      apply List.ext_getElem?
      intro j
      by_cases hj : j < ts.length * 2
      · have hjc : j < cur.size := by rw [h4]; omega
        rw [List.getElem?_take_of_lt hj, Array.getElem?_toList, Array.getElem?_toList]
        simp [putCells, hj, hjc]
      · rw [List.getElem?_take_eq_none (by omega), List.getElem?_eq_none (by simp; omega)]

def sortL (ls : List K2) : List K2 := ls.mergeSort fun x y => !(ltOf cfK) y x
theorem sortL_length (ls : List K2) : (sortL ls).length = ls.length := List.length_mergeSort _
theorem sortL_mem (ls : List K2) (k : K2) : k ∈ sortL ls ↔ k ∈ ls := (List.mergeSort_perm ls _).mem_iff
theorem sortL_rise (ls : List K2) (h : ls.Nodup) : Rise (sortL ls) := by
  have hp := List.pairwise_mergeSort (le := fun x y => !(ltOf cfK) y x) (fun a b c h1 h2 => by
    simp only [Bool.not_eq_true', ltK] at *
    simp [aheadB] at *
    omega) (fun a b => by
    simp only [ltK, Bool.or_eq_true, Bool.not_eq_true']
    rcases Ah.tri a b with h | h | h
    · left; cases hh : aheadB b.1 b.2 a.1 a.2
      · rfl
      · exact absurd (((ah_iff b a).1 hh).trans h) (Ah.irr _)
    · left; rw [h]; simp [aheadB]
    · right; cases hh : aheadB a.1 a.2 b.1 b.2
      · rfl
      · exact absurd (((ah_iff a b).1 hh).trans h) (Ah.irr _)) ls
  have hn : (sortL ls).Nodup := (List.mergeSort_perm ls _).nodup_iff.2 h
  refine List.Pairwise.imp ?_ (List.Pairwise.and hp hn)
  rintro a b ⟨h1, h2⟩
  simp only [Bool.not_eq_true', ltK] at h1
  rcases Ah.tri a b with h | h | h
  · exact h
  · exact absurd h h2
  · rw [(ah_iff b a).2 h] at h1; cases h1

theorem sortKeys_any (v : Value) (ls : List K2) (B : Nat) (w : World) (h : Keys B v ls w) (hl : ls.length ≤ 1000000) :
    Calls Try.prog 89 #[v, .func (.func 77) #[] #[]] w fun e w' => e = .returned (.tuple #[]) ∧ Keys B v (sortL ls) w' ∧ w.grownBy w' v.ownBlock := by
  rcases h.form with ⟨rfl, rfl⟩ | ⟨g, cap, rfl, hB, hg, _, _, hseg, hfz⟩
  · refine (AnyF.slices_SortFunc_none { Try.sortKey with } none 0 _ w).mono fun e w' ⟨h1, h2⟩ => ⟨h1, ?_, ?_⟩
    · rw [h2]
      have : sortL [] = [] := by simp [sortL]
      rw [this]; exact h
    · rw [h2]; exact World.grownBy.refl _ _
  · have eg : ∀ args w, (callFunc 77 args).run Try.prog w = .ok (.enter 77 args) w := enters_of Try.func77 (by kernel_rfl) rfl
    have hcon := AnyQ.slices_SortFunc_total Try.sortKey 2 (by intro w; kernel_rfl) (by intro w; kernel_rfl) encK (fun _ => rfl) (fun x v hv => by simp [encK] at hv; rcases hv with rfl | rfl <;> rfl) cfK swoK 77 #[] g 0 cap ls.toArray w eg (cmpLaysK _ _ _ _) (holdsKeys hseg hfz) hg (by simp; omega) totK
    refine hcon.mono fun e w' ⟨h1, n, os, h2⟩ => ⟨h1, ?_, ?_⟩
    · rw [h2]
      exact Keys.sorted h (sortL_length ls)
    · rw [h2]
      exact grownBy_sortedK _
end Ytjilbfohfgalkaa
end Go.Proofs
/- The contract of (keySet).inOrder: the set's keys, rising. -/
namespace Go.Proofs.Ytjilbfohfgalkaa
open Go.RowKit
open Go.WideElems (Fit rd rg pl rd_val rd_key rg_of)

/-- What has been met of the range, what is to come. -/
structure Met (st : List K2) (left : Lit → Bool) (ls : List K2) : Prop where
  nodup : ls.Nodup
  ins : ∀ k ∈ ls, k ∈ st
  gone : ∀ k ∈ ls, left (kLit k) = false
  rest : ∀ k ∈ st, k ∈ ls ∨ left (kLit k) = true
  only : ∀ kl, left kl = true → ∃ k ∈ st, kl = kLit k ∧ Wf k
theorem kLit_inj {a b : K2} (ha : Wf a) (hb : Wf b) (h : kLit a = kLit b) : a = b :=
  kv_inj (keyedK.inj (keyOf_kv ha) (by rw [h]; exact keyOf_kv hb))
theorem same_self (a : K2) : (kLit a).sameKey (kLit a) = true := by simp [Lit.sameKey]
theorem Met.step {st : List K2} {left : Lit → Bool} {ls : List K2} (h : Met st left ls) (hw : ∀ k ∈ st, Wf k) {x : K2} {kl : Lit} (hkl : kl = kLit x) (hx : Wf x) (hl : left kl = true) : Met st (fun z => left z && !z.sameKey kl) (ls ++ [x]) := by
  subst hkl
  obtain ⟨k, hk, e, hwk⟩ := h.only _ hl
  have e := kLit_inj hx hwk e
  subst e
  have hn : x ∉ ls := fun hm => by rw [h.gone x hm] at hl; cases hl
  refine ⟨?_, fun k hm => ?_, fun k hm => ?_, fun k hm => ?_, fun z hz => ?_⟩
  · refine List.nodup_append.2 ⟨h.nodup, by simp, fun a ha b hb e2 => ?_⟩
    simp at hb; rw [e2, hb] at ha; exact hn ha
  · rcases List.mem_append.1 hm with hm | hm
    · exact h.ins k hm
    · simp at hm; subst hm; exact hk
  · rcases List.mem_append.1 hm with hm | hm
    · simp [h.gone k hm]
    · simp at hm; subst hm; simp [same_self]
  · by_cases e : k = x
    · left; simp [e]
    · rcases h.rest k hm with h1 | h1
      · left; simp [h1]
      · right
        have : (kLit k).sameKey (kLit x) = false := Maps.sameKey_ne (fun e2 => e (kLit_inj (hw k hm) hx e2))
        simp only [h1, this, Bool.not_false, Bool.and_self]
  · simp only [Bool.and_eq_true] at hz
    exact h.only z hz.1
theorem Met.all {st : List K2} {left : Lit → Bool} {ls : List K2} (h : Met st left ls) (hl : ∀ kl, left kl = false) (k : K2) : k ∈ ls ↔ k ∈ st :=
  ⟨h.ins k, fun hm => by rcases h.rest k hm with h1 | h1; exact h1; rw [hl] at h1; cases h1⟩
theorem MapF.owns {b n : Nat} {st : List K2} {w : World} (h : MapF b n (setF st) w) : ∃ D, w.ownsMap Try.prog 36 R0 b n D ∧ Met st (Maps.has D) [] ∧ Maps.size D ≤ n := by
  obtain ⟨es, clock, hb, F, hs, h1, h2⟩ := h
  have rgk : ∀ e ∈ es.toList, ∀ k : K2, e.key = kv k.1 k.2 → (rg Try.prog 36 R0 e).1 = kLit k ∧ Wf k := fun e he k hk => by
    obtain ⟨y, hy⟩ := F.reads e he
    rw [rg_of hy]
    have := rd_key hy
    obtain ⟨k', e1, e2, e3⟩ := keyOf_inv this
    have : k = k' := kv_inj (hk.symm.trans e1)
    subst this
    exact ⟨e3, e2⟩
  refine ⟨_, ⟨es, clock, hb, F, hs, rfl⟩, ⟨List.nodup_nil, by simp, by simp, fun k hm => .inr ?_, fun kl hkl => ?_⟩, ?_⟩
  · obtain ⟨e, he, hek, _⟩ := h2 k unitV (by simp [setF, hm])
    rw [Maps.has_eq, List.any_eq_true]
    refine ⟨rg Try.prog 36 R0 e, mem_sorted.2 (List.mem_map.2 ⟨e, he, rfl⟩), ?_⟩
    rw [(rgk e he k hek).1]
    exact same_self k
  · rw [Maps.has_eq, List.any_eq_true] at hkl
    obtain ⟨p, hp, hsame⟩ := hkl
    obtain ⟨e, he, rfl⟩ := List.mem_map.1 (mem_sorted.1 hp)
    obtain ⟨k, hek, hf⟩ := h1 e he
    obtain ⟨e1, e2⟩ := rgk e he k hek
    have hm : k ∈ st := by
      by_cases hm : k ∈ st
      · exact hm
      · simp [setF, hm] at hf
    refine ⟨k, hm, ?_, e2⟩
    rw [e1] at hsame
    exact (WideAt.sameKey_eq hsame).symm
  · rw [Maps.size_eq, length_sorted]
    simpa using hs
theorem unit_inv (v : Value) (y : DataW Unit × List MemPlace) (_ : R0 v = some y) : ∃ c : Value, v = id c := ⟨v, rfl⟩

set_option maxRecDepth 100000 in
set_option maxHeartbeats 2000000 in
theorem inOrder_any (b n : Nat) (st : List K2) (w : World) (hM : MapF b n (setF st) w) (hn : n ≤ 100000) (hw : ∀ k ∈ st, Wf k) :
    Calls Try.prog 70 #[.map (some b)] w fun e w' => ∃ v out, e = .returned v ∧ Keys w.heap.size v out w' ∧ Rise out ∧ (∀ k, k ∈ out ↔ k ∈ st) ∧ Below w.heap.size w w' := by
  obtain ⟨D, hown, hmet, hsize⟩ := hM.owns
  have hbl := hown.lt
  clear hM
  have HM0 : Hid (Met st (Maps.has D) []) := hmet
  clear hmet
  go_enter Try.func70, Try.ntmps70
  go_wp2_with (refine wpList_range_own _ rfl _ 107 rfl 36 126 keyedK Try.underlying107 R0 b n D rfl hown ?_; intro w0 hrg0 hg0 hs0)
  go_frame
  go_loopw [3] (fun v wr => ∃ (left : Lit → Bool) (cnt : Nat) (ls : List K2), wr.ranges Try.prog 36 R0 b w.heap.size n D left cnt ∧ ls.length + cnt ≤ Maps.size D ∧ Hid (Keys w.heap.size v ls wr ∧ Met st left ls ∧ Below w.heap.size w wr))
    (fun _ wr => wr.rangeLeft b w.heap.size)
  case atStart => exact ⟨_, _, [], hrg0, by simp, World.ownsRow_nil _ _ _ _, HM0.out, (Below.refl _ _).grown hg0 (Nat.le_refl _) (fun j hj => by cases hj)⟩
  case round =>
    obtain ⟨left, cnt, ls, hrg, hcs, HI⟩ := hrel
    clear HM0 hrg0 hg0 hs0
    go_wp2_with (refine wpList_next_ranges _ rfl _ rfl 36 keyedK R0 (fun k : K2 => kv k.1 k.2) id (fun key kl hk => by obtain ⟨x, hx, _⟩ := keyOf_inv hk; exact ⟨x, hx⟩) unit_inv b w.heap.size n _ _ _ rfl hrg ?_ ?_)
    · intro hc0 hl0
      go_wp2_with fail
      refine (sortKeys_any u3 ls w.heap.size wr HI.out.1 (by omega)).mono ?_
      rintro e w3 ⟨rfl, hk3, hg3⟩
      go_wp2
      go_ret
      exact ⟨_, _, rfl, hk3, sortL_rise ls HI.out.2.1.nodup, fun k => (sortL_mem ls k).trans (HI.out.2.1.all hl0 k), HI.out.2.2.grown hg3 HI.out.2.2.size (fun j e => (HI.out.1.lt j e).1)⟩
    · intro x1 x2 c kl yd yp w2 cnt2 hkey hlk hv hat hrg2 hlt hg2 hs2 hen
      obtain ⟨x', ex, hwx, hkl⟩ := keyOf_inv hkey
      have ex := kv_inj (a := (x1, x2)) ex
      subst ex
      have HI2 : Hid (Keys w.heap.size u3 ls w2) := HI.out.1.kept hg2 (fun k e e2 => row_ne_iter HI.out.1 hrg (by rw [e2, ← e]))
      have hs3 := HI.out.2.2.size
      have hs4 := hg2.size
      have hnw := cell_two_new (w2.alloc (kb x1 x2)) x1 x2 36
      rw [show (w2.alloc (kb x1 x2)).heap.size = w2.heap.size + 1 by simp] at hnw
      have HB2 : Hid (Below w.heap.size w w2) := HI.out.2.2.grown hg2 hs3 (fun j e => by cases e; exact Nat.le_refl _)
      have HMt : Hid (Met st (fun z => left z && !z.sameKey kl) (ls ++ [(x1, x2)])) := HI.out.2.1.step hw hkl hwx hlk
      have HR2 : Hid (w2.ranges Try.prog 36 R0 b w.heap.size n D (fun z => left z && !z.sameKey kl) cnt2) := hrg2
      have HR : Hid (wr.ranges Try.prog 36 R0 b w.heap.size n D left cnt) := hrg
      clear hs2 hkey hlk hv hat hkl hg2 HI hrg2 hrg
      go_wp2_with (at_builtin; refine wpList_append_key rfl _ _ rfl w.heap.size u3 ls rfl (HI2.out.below (two_below _ _ _) (fun j e => (HI2.out.lt j e).2)) _ x1 x2 rfl hnw (by omega) (by simp; omega) ?_; intro v4 w4 own4 gr4 loc4; go_frame)
      have hrg3 := ((HR2.out.alloc _).alloc _).kept gr4 (row_ne_low HI2.out hbl) (row_ne_iter HI2.out HR2.out)
      go_roundw
      case rel => exact ⟨_, cnt2, ls ++ [(x1, x2)], hrg3, by simp; omega, own4, HMt.out, ((HB2.out.alloc (by omega) _).alloc (by simp; omega) _).grown gr4 (by simp; omega) (fun j e => (HI2.out.lt j e).1)⟩
      case measure => rw [hrg3.left_eq, HR.out.left_eq]; exact hlt
end Go.Proofs.Ytjilbfohfgalkaa
/- Learned, of the program and of the model: the same keys. -/
namespace Go.Proofs.Ytjilbfohfgalkaa
open Go.RowKit

theorem known_right {ks : List K2} (h : knownB ks = true) : ks.length ≤ 200 ∧ (∀ k ∈ ks, Wf k) ∧ Rise ks := by
  unfold knownB at h
  simp only [Bool.and_eq_true, decide_eq_true_eq] at h
  have hall : ∀ i (hi : i < ks.length), okK ks[i].1 ks[i].2 = true ∧ (i = 0 ∨ ∃ h : i - 1 < ks.length, Ah ks[i - 1] ks[i]) := fun i hi => by
    have := List.all_eq_true.1 h.2 i (List.mem_range.2 hi)
    unfold okAt at this
    rw [kAt_get ks i hi, kAt_get ks (i - 1) (by omega)] at this
    simp only [Bool.and_eq_true, Bool.or_eq_true, decide_eq_true_eq] at this
    refine ⟨this.1, ?_⟩
    rcases this.2 with e | e
    · exact .inl e
    · exact .inr ⟨by omega, (ah_iff _ _).1 e⟩
  refine ⟨h.1, fun k hk => ?_, ?_⟩
  · obtain ⟨i, hi, rfl⟩ := List.getElem_of_mem hk
    exact wf_ok (hall i hi).1
  · unfold Rise
    rw [List.pairwise_iff_getElem]
    have key : ∀ j (hj : j < ks.length) i (hi : i < ks.length), i < j → Ah ks[i] ks[j] := fun j => by
      induction j with
      | zero => intro _ i _ h; omega
      | succ j ih =>
        intro hj i hi hij
        have hs : Ah (ks[j]'(by omega)) ks[j + 1] := by
          rcases (hall (j + 1) hj).2 with e | ⟨_, e⟩
          · omega
          · simpa using e
        by_cases e : i = j
        · subst e; exact hs
        · exact (ih (by omega) i hi (by omega)).trans hs
    exact fun i j hi hj hij => key j hj i hi hij
theorem wraps_right {ws : List W4} (h : wrapsB ws = true) : ws.length ≤ 400 ∧ (∀ x ∈ ws, Wf (wUnder x)) ∧ ∀ x ∈ ws, Wf (wKey x) := by
  unfold wrapsB at h
  simp only [Bool.and_eq_true, decide_eq_true_eq, List.all_eq_true] at h
  refine ⟨h.1, fun x hx => ?_, fun x hx => ?_⟩
  · have := h.2 x hx
    unfold okW at this
    simp only [Bool.and_eq_true] at this
    exact wf_ok this.1
  · have := h.2 x hx
    unfold okW at this
    simp only [Bool.and_eq_true] at this
    exact wf_ok this.2
theorem lrn_wf {ks : List K2} {ws : List W4} (h1 : ∀ k ∈ ks, Wf k) (h2 : ∀ x ∈ ws, Wf (wKey x)) {k : K2} (h : Lrn ks ws k) : Wf k := by
  exact h _ h1 (fun x hx _ => h2 x hx)
/-- What Learned answers. -/
def LrnOut (ks : List K2) (ws : List W4) (out : List K2) : Prop := if knownB ks = true ∧ wrapsB ws = true then Rise out ∧ ∀ k, k ∈ out ↔ Lrn ks ws k else out = []
theorem LrnOut.one {ks : List K2} {ws : List W4} {a b : List K2} (ha : LrnOut ks ws a) (hb : LrnOut ks ws b) : a = b := by
  unfold LrnOut at ha hb
  split at ha
  · rename_i h
    rw [if_pos h] at hb
    exact Rise.eq ha.1 hb.1 (fun x => (ha.2 x).trans (hb.2 x).symm)
  · rename_i h
    rw [if_neg h] at hb
    rw [ha, hb]

set_option maxHeartbeats 1000000 in
theorem learned_any {B C : Nat} {kx wx : Value} {ks : List K2} {ws : List W4} {w : World} (hk : Keys B kx ks w) (hw : Wraps C wx ws w) :
    Calls Try.prog 49 #[kx, wx] w fun e w' => ∃ v out, e = .returned v ∧ Keys w.heap.size v out w' ∧ LrnOut ks ws out ∧ Below w.heap.size w w' := by
  have HK : Hid (Keys B kx ks w) := hk
  have HW : Hid (Wraps C wx ws w) := hw
  clear hk hw
  cases hkb : knownB ks with
  | false =>
    go_enter Try.func49, Try.ntmps49
    go_wp2_with fail
    refine (knownOk_any HK.out).mono ?_
    rintro e w1 ⟨rfl, hb⟩
    rw [hkb]
    have hs := hb.size
    go_wp2
    go_ret
    exact ⟨_, [], rfl, World.ownsRow_nil _ _ _ _, by unfold LrnOut; rw [if_neg (by simp [hkb])], hb⟩
  | true =>
    go_enter Try.func49, Try.ntmps49
    go_wp2_with fail
    refine (knownOk_any HK.out).mono ?_
    rintro e w1 ⟨rfl, hb⟩
    rw [hkb]
    have HW1 : Hid (Wraps C wx ws w1) := HW.out.below hb (fun k e => (HW.out.lt k e).2)
    have HK1 : Hid (Keys B kx ks w1) := HK.out.below hb (fun k e => (HK.out.lt k e).2)
    have HB1 : Hid (Below w.heap.size w w1) := hb
    have hs := hb.size
    clear hb
    go_wp2_with fail
    refine (wrapsOk_any HW1.out).mono ?_
    rintro e w2 ⟨rfl, hb⟩
    have hs2 := hb.size
    cases hwb : wrapsB ws with
    | false =>
      go_wp2
      go_ret
      exact ⟨_, [], rfl, World.ownsRow_nil _ _ _ _, by unfold LrnOut; rw [if_neg (by simp [hwb])], HB1.out.trans (hb.mono hs)⟩
    | true =>
      obtain ⟨k1, k2, _⟩ := known_right hkb
      obtain ⟨w1', w2', w3'⟩ := wraps_right hwb
      have HA : Hid (KArg kx ks w2) := HK1.out.arg.below hb
      have HA2 : Hid (WArg wx ws w2) := HW1.out.arg.below hb
      have HB2 : Hid (Below w.heap.size w w2) := HB1.out.trans (hb.mono hs)
      clear hb
      go_wp2_with fail
      refine (learnedSet_any kx wx ks ws w2 HA.out HA2.out k1 w1' k2 w2' w3').mono ?_
      rintro e w3 ⟨b, st, rfl, hbb, hM, hnd, hsl, hst, hb3⟩
      have hs3 := hb3.size
      go_wp2_with fail
      refine (inOrder_any b st.length st w3 hM ?_ ?_).mono ?_
      · omega
      · exact fun k hk => lrn_wf k2 w3' ((hst k).1 hk)
      rintro e w4 ⟨v, out, rfl, o1, o2, o3, o4⟩
      go_wp2
      go_ret
      exact ⟨_, out, rfl, o1.mono (by omega), by unfold LrnOut; rw [if_pos ⟨hkb, hwb⟩]; exact ⟨o2, fun k => (o3 k).trans (hst k)⟩, (HB2.out.trans (hb3.mono (by omega))).trans (o4.mono (by omega))⟩
end Go.Proofs.Ytjilbfohfgalkaa
/- Copies of keys and of members: copied, ownMember of the program, l4Copy of the model. -/
namespace Go.Proofs.Ytjilbfohfgalkaa
open Go.RowKit

theorem hidC {p : Prop} (h : p) : Hid p := h
theorem noKeys (B : Nat) (w : World) : Keys B (.slice none 0 0) [] w := ⟨by simp [kcells], .inl ⟨rfl, rfl⟩⟩
theorem keysSince {B : Nat} {v : Value} {ks : List (Int × Int)} {W W' : World} (h : Keys B v ks W) (hb : Below W.heap.size W W') : Keys B v ks W' := h.below hb (fun k e => (h.lt k e).2)

/-- Keys with keys appended. -/
theorem wpList_append_keysK {w : World} {ops : Array Oper} {rest : List Oper} {o : Oper} {a : Act} {Q : Exit → Act → World → Prop} (hgd : o.guard = none) (s x : Operand)
    (ho : o.op = .call { callee := .builtin .append, args := #[s, x], argTypes := #[24, 24] })
    (base C : Nat) (v xv : Value) (ls ks : List (Int × Int)) (hs : a.eval s = v) (hown : Keys base v ls w) (hx : a.eval x = xv) (hk : Keys C xv ks w) (hm : ls.length + ks.length ≤ 1000000) (hbase : base ≤ w.heap.size)
    (h : ∀ a' c' w', Keys base (.slice a' (ls.length + ks.length) c') (ls ++ ks) w' → w.grownBy w' v.ownBlock → wpList Try.prog ops Q rest (a.put o.dst (.slice a' (ls.length + ks.length) c')) w') : wpList Try.prog ops Q (o :: rest) a w := by
  obtain ⟨i0, hi, hz0, hz1, hz2⟩ := info_parts infoK
  rcases hk.form with ⟨rfl, rfl⟩ | ⟨g, c, rfl, _, hg, hc, _, hseg, _⟩
  · refine wpList_append_own_none hgd s x _ ho base 36 i0 2 Try.underlying24 hi v _ _ hs hown hx ?_
    obtain ⟨a', c', hv, _, _⟩ := hown.row
    have := h a' c' w (by simpa [← hv] using hown) (World.grownBy.refl _ _)
    simpa [hv] using this
  · refine wpList_append_own w hgd s x _ ho base 36 i0 (.agg #[.int .i64 0, .int .i64 0]) 2 16 Try.underlying24 hi hz0 hz1 hz2 rfl (by decide) v _ _ hs hown ⟨g, 0, none⟩ ks.length c (kcells ks) hx (kcells_length _) (news_keys hseg) (one_kcells _) (by unfold maxLen; omega) (by omega) hbase ?_
    intro v' w' h1 h2 _
    have hK : Keys base v' (ls ++ ks) w' := by
      unfold Keys
      rw [List.length_append, kcells_append]
      exact h1
    obtain ⟨a', c', hv, _, _⟩ := hK.row
    rw [List.length_append] at hv
    subst hv
    exact h a' c' w' hK h2

set_option maxRecDepth 100000 in
theorem copiedK_any {B : Nat} {v : Value} {ks : List (Int × Int)} {w : World} (h : Keys B v ks w) (hl : ks.length ≤ 100000) :
    Calls Try.prog 46 #[v] w fun e w' => ∃ a c, e = .returned (.slice a ks.length c) ∧ Keys w.heap.size (.slice a ks.length c) ks w' ∧ Below w.heap.size w w' := by
  obtain ⟨a, c, hv, _, _⟩ := h.row
  subst hv
  have HK := hidC h
  clear h
  generalize hn : ks.length = n at *
  go_enter Try.func46, Try.ntmps46
  go_wp2_with (at_builtin; refine wpList_append_keysK rfl _ _ rfl w.heap.size B (.slice none 0 0) _ [] ks rfl (noKeys _ _) rfl HK.out (by simp; omega) (Nat.le_refl _) ?_; intro a1 c1 w1 own1 gr1; simp only [List.length_nil, Nat.zero_add, List.nil_append, hn] at own1 ⊢)
  go_ret
  exact ⟨a1, c1, rfl, own1, (Below.refl _ w).grown gr1 (Nat.le_refl _) (fun j e => by cases e)⟩
end Go.Proofs.Ytjilbfohfgalkaa
/- newest of the program, l4Newest of the model: of each node the last key, in new memory. -/
namespace Go.Proofs.Ytjilbfohfgalkaa
open Go.RowKit

/-- Is the key at this place the last of its node? -/
def lastAt (ks : List (Int × Int)) (i : Nat) : Bool := decide (i + 1 = ks.length) || !decide ((kAt ks (i + 1)).1 = (kAt ks i).1)
def newTo (ks : List (Int × Int)) (m : Nat) : List (Int × Int) := ((List.range m).filter (lastAt ks)).map (kAt ks)
def newK (ks : List (Int × Int)) : List (Int × Int) := newTo ks ks.length
theorem newTo_le (ks : List (Int × Int)) (m : Nat) : (newTo ks m).length ≤ m := by
  unfold newTo
  have := List.length_filter_le (lastAt ks) (List.range m)
  simp at this ⊢
  exact this
theorem newTo_hit {ks : List (Int × Int)} {m : Nat} (h : lastAt ks m = true) : newTo ks (m + 1) = newTo ks m ++ [kAt ks m] := by simp [newTo, List.range_succ, h]
theorem newTo_miss {ks : List (Int × Int)} {m : Nat} (h : lastAt ks m = false) : newTo ks (m + 1) = newTo ks m := by simp [newTo, List.range_succ, h]
theorem cellKN (W : World) (n v : Int) : ∀ j u, [Value.int .i64 n, Value.int .i64 v][j]? = some u → (W.alloc (.cells #[.int .i64 n, .int .i64 v] 36)).cell? ((⟨W.heap.size, 0, none⟩ : Addr).add j) = some u := by
  intro j u h
  match j with
  | 0 => simp at h; subst h; simp [Addr.add]
  | 1 => simp at h; subst h; simp [Addr.add]
  | j + 2 => simp at h
theorem cellKN' (W : World) (n v : Int) (S : Nat) (hS : W.heap.size = S) : ∀ j u, [Value.int .i64 n, Value.int .i64 v][j]? = some u → (W.alloc (.cells #[.int .i64 n, .int .i64 v] 36)).cell? ((⟨S, 0, none⟩ : Addr).add j) = some u := by subst hS; exact cellKN W n v
theorem rowKN {W : World} {B n : Nat} {v : Value} {ys : List Value} {xs : List (Int × Int)} (h : W.ownsRow B 36 2 v n ys) (e : ys = kcells xs) (hn : xs.length = n) : ∃ a c, v = .slice a n c ∧ Keys B (.slice a n c) xs W := by
  subst e hn
  have hK : Keys B v xs W := h
  obtain ⟨a, c, hv, _, _⟩ := hK.row
  subst hv
  exact ⟨a, c, rfl, hK⟩
theorem belowKN {w W W' : World} {v : Value} {xs : List (Int × Int)} {o : Obj} (hK : Keys w.heap.size v xs W) (hB : Below w.heap.size w W) (hg : (W.alloc o).grownBy W' v.ownBlock) : Below w.heap.size w W' :=
  (hB.alloc hB.size o).grown hg (by simp; have := hB.size; omega) (fun k e => (hK.lt k e).1)
end Go.Proofs.Ytjilbfohfgalkaa
/- newest of the program. -/
namespace Go.Proofs.Ytjilbfohfgalkaa
open Go.RowKit

theorem two_kept {w W : World} {v : Value} {xs : List (Int × Int)} (h : Keys w.heap.size v xs W) (hB : Below w.heap.size w W) (o : Obj) (q : Nat) : Keys w.heap.size v xs ((W.alloc o).drewN q) ∧ Below w.heap.size w ((W.alloc o).drewN q) :=
  ⟨(keysSince h (one_below W o)).drewN q, below_drewN' (hB.alloc hB.size o) q⟩
theorem own_kept {B m : Nat} {v : Value} {xs : List (Int × Int)} {W : World} (h : Keys B v xs W) (hm : xs.length = m) (o : Obj) : (W.alloc o).ownsRow B 36 2 v m (kcells xs) := by
  subst hm
  exact World.ownsRow.alloc h o

set_option maxRecDepth 100000 in
set_option maxHeartbeats 4000000 in
theorem newest_any {B : Nat} {v : Value} {ks : List (Int × Int)} {w : World} (h : Keys B v ks w) (hl : ks.length ≤ 100000) :
    Calls Try.prog 48 #[v] w fun e w' => ∃ a c, e = .returned (.slice a (newK ks).length c) ∧ Keys w.heap.size (.slice a (newK ks).length c) (newK ks) w' ∧ Below w.heap.size w w' := by
  obtain ⟨i0, hi, hz0, hz1, hz2⟩ := info_parts infoK
  obtain ⟨a, c, hv, hm, hrow⟩ := h.row
  subst hv
  unfold maxLen at hm
  have HR := hidC hrow
  clear hrow h
  generalize hn : ks.length = n at *
  have HN := hidC hn
  clear hn
  go_enter Try.func48, Try.ntmps48
  go_wp2
  go_loopw [3, 8] (fun kvv i wr => ∃ (k m : Nat) (b : Option Addr) (d : Nat), kvv = .slice b m d ∧ i = .int .i64 (k : Int) ∧ k ≤ n ∧ Hid ((newTo ks k).length = m) ∧ Hid (Keys w.heap.size (.slice b m d) (newTo ks k) wr) ∧ Below w.heap.size w wr) (fun _ i _ => n - (intOf i).toNat)
  case atStart => exact ⟨0, 0, none, 0, rfl, rfl, by omega, rfl, noKeys _ _, Below.refl _ _⟩
  case round =>
    obtain ⟨k, m, b, d, rfl, rfl, hk, HM, HKs, hB⟩ := hrel
    have hle : m ≤ k := by have := newTo_le ks k; rw [HM.out] at this; exact this
    by_cases hlt : k < n
    · obtain ⟨g, ha, hg, hseg⟩ : ∃ g, a = some ⟨g, 0, none⟩ ∧ g < w.heap.size ∧ KSeg g 0 ks w := by
        rcases HR.out with e | e
        · have := HN.out; rw [e] at this; simp at this; omega
        · exact e
      subst ha
      have hlk : k < ks.length := by have := HN.out; omega
      obtain ⟨a1, a2⟩ := hseg k hlk
      have a1 := cell_since a1 hB
      have a2 := cell_since a2 hB
      simp only [Nat.zero_add] at a1 a2
      have hs := hB.size
      have hat : kAt ks k = ks[k] := kAt_get ks k hlk
      have HHit := hidC (newTo_hit (ks := ks) (m := k))
      have HMis := hidC (newTo_miss (ks := ks) (m := k))
      rw [hat] at HHit
      by_cases hlast : k + 1 = n
      · have HL : Hid (lastAt ks k = true) := by show lastAt ks k = true; simp [lastAt, HN.out, hlast]
        have hdec : (((k : Int) + 1) == (n : Int)) = true := by simp; omega
        have HE := hidC (HHit.out HL.out)
        clear HHit HMis HL hseg hat hlast
        generalize ks[k] = kk at *
        obtain ⟨x1, x2⟩ := kk
        dsimp only at a1 a2
        go_wp2
        go_quiet (fail)
        have TK := two_kept HKs.out hB (.cells #[.int .i64 x1, .int .i64 x2] 36) nq
        have HB1 := hidC TK.2
        have HK1 := hidC TK.1
        have HOwn := hidC (own_kept TK.1 HM.out (.cells #[.int .i64 x1, .int .i64 x2] 36))
        have hml := HM.out
        clear TK
        go_wp2_with (at_builtin; refine wpList_append_own _ rfl _ _ 24 rfl w.heap.size 36 i0 (.agg #[.int .i64 0, .int .i64 0]) 2 16 Try.underlying24 hi hz0 hz1 hz2 rfl (by decide) _ _ _ rfl HOwn.out ⟨wr.heap.size + 1, 0, none⟩ 1 1 [.int .i64 x1, .int .i64 x2] rfl rfl (cellKN' _ _ _ _ (by simp)) (by simp [Value.oneCell']) (by unfold maxLen; omega) (by omega) (by simp <;> omega) ?_; intro v' w8 hown' hgrow _; obtain ⟨a8, c8, hv', hI'⟩ := rowKN (xs := newTo ks k ++ [(x1, x2)]) hown' (by rw [kcells_append]; rfl) (by simp [HM.out]); subst hv'; have HI8 := hidC hI'; have HB8 := hidC (belowKN HK1.out HB1.out hgrow); clear hown' hI' hgrow)
        go_roundw
        case rel => exact ⟨k + 1, m + 1, a8, c8, by go_num, by go_num, by omega, (by show _ = _; rw [HE.out]; simp [HM.out]), (by show Keys _ _ _ _; rw [HE.out]; exact HI8.out), HB8.out⟩
        case measure => simp [intOf] <;> omega
      · have hdec : (((k : Int) + 1) == (n : Int)) = false := by simp; omega
        have hlk' : k + 1 < ks.length := by have := HN.out; omega
        have h1n : (k : Int) + 1 < (n : Int) := by omega
        have b1 := cell_since (hseg (k + 1) hlk').1 (hB.trans ((one_below wr (.cells #[.int .i64 ks[k].1, .int .i64 ks[k].2] 36)).mono hB.size))
        simp only [Nat.zero_add] at b1
        have HL : Hid (lastAt ks k = !decide (ks[k + 1].1 = ks[k].1)) := by
          show lastAt ks k = _
          unfold lastAt
          rw [kAt_get ks (k + 1) hlk', hat, decide_eq_false (by omega), Bool.false_or]
        clear hseg hat hlast
        generalize ks[k + 1].1 = y1 at *
        generalize ks[k] = kk at *
        obtain ⟨x1, x2⟩ := kk
        dsimp only at a1 a2 b1 HL
        by_cases hnode : y1 = x1
        · subst hnode
          have HE := hidC (HMis.out (by rw [HL.out]; simp))
          clear HHit HMis HL
          go_wp2
          go_quiet (fail)
          go_wp2
          have TK := two_kept HKs.out hB (.cells #[.int .i64 y1, .int .i64 x2] 36) nq
          go_roundw
          case rel => exact ⟨k + 1, m, b, d, rfl, by go_num, by omega, by show _ = _; rw [HE.out]; exact HM.out, by show Keys _ _ _ _; rw [HE.out]; exact TK.1, TK.2⟩
          case measure => simp [intOf] <;> omega
        · have HE := hidC (HHit.out (by rw [HL.out]; simp [hnode]))
          have hnode' : (y1 == x1) = false := by simpa using hnode
          clear HHit HMis HL
          go_wp2
          go_quiet (fail)
          have TK := two_kept HKs.out hB (.cells #[.int .i64 x1, .int .i64 x2] 36) nq
          have HB1 := hidC TK.2
          have HK1 := hidC TK.1
          have HOwn := hidC (own_kept TK.1 HM.out (.cells #[.int .i64 x1, .int .i64 x2] 36))
          have hml := HM.out
          clear TK
          go_wp2_with (at_builtin; refine wpList_append_own _ rfl _ _ 24 rfl w.heap.size 36 i0 (.agg #[.int .i64 0, .int .i64 0]) 2 16 Try.underlying24 hi hz0 hz1 hz2 rfl (by decide) _ _ _ rfl HOwn.out ⟨wr.heap.size + 1, 0, none⟩ 1 1 [.int .i64 x1, .int .i64 x2] rfl rfl (cellKN' _ _ _ _ (by simp)) (by simp [Value.oneCell']) (by unfold maxLen; omega) (by omega) (by simp <;> omega) ?_; intro v' w8 hown' hgrow _; obtain ⟨a8, c8, hv', hI'⟩ := rowKN (xs := newTo ks k ++ [(x1, x2)]) hown' (by rw [kcells_append]; rfl) (by simp [HM.out]); subst hv'; have HI8 := hidC hI'; have HB8 := hidC (belowKN HK1.out HB1.out hgrow); clear hown' hI' hgrow)
          go_roundw
          case rel => exact ⟨k + 1, m + 1, a8, c8, by go_num, by go_num, by omega, (by show _ = _; rw [HE.out]; simp [HM.out]), (by show Keys _ _ _ _; rw [HE.out]; exact HI8.out), HB8.out⟩
          case measure => simp [intOf] <;> omega
    · have hkn : k = n := by omega
      subst hkn
      go_wp2
      go_ret
      have e1 : newTo ks k = newK ks := by unfold newK; rw [HN.out]
      have e2 := HM.out
      have e3 := HKs.out
      rw [e1] at e2 e3
      rw [e2]
      exact ⟨b, d, rfl, e3, hB⟩
end Go.Proofs.Ytjilbfohfgalkaa
