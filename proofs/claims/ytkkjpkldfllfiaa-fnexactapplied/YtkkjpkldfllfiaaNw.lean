
/- newest of the program, l4Newest of the model: of each node the last key, in new memory. -/
import Derived.Test.YtkkjpkldfllfiaaCpy
namespace Go.Proofs.Ytkkjpkldfllfiaa
open Go.RowKit

/-- Is the key at this place the last of its node? -/
def lastAt (ks : List (Int × Int)) (i : Nat) : Bool := decide (i + 1 = ks.length) || !decide ((kAt ks (i + 1)).1 = (kAt ks i).1)
def newTo (ks : List (Int × Int)) (m : Nat) : List (Int × Int) := ((List.range m).filter (lastAt ks)).map (kAt ks)
def newK (ks : List (Int × Int)) : List (Int × Int) := newTo ks ks.length
theorem newTo_le (ks : List (Int × Int)) (m : Nat) : (newTo ks m).length ≤ m := by
  unfold newTo
  have := List.length_filter_le (lastAt ks) (List.range m)
  simp at this ⊢
  exact this
theorem newTo_hit {ks : List (Int × Int)} {m : Nat} (h : lastAt ks m = true) : newTo ks (m + 1) = newTo ks m ++ [kAt ks m] := by simp [newTo, List.range_succ, h]
theorem newTo_miss {ks : List (Int × Int)} {m : Nat} (h : lastAt ks m = false) : newTo ks (m + 1) = newTo ks m := by simp [newTo, List.range_succ, h]
theorem cellKN (W : World) (n v : Int) : ∀ j u, [Value.int .i64 n, Value.int .i64 v][j]? = some u → (W.alloc (.cells #[.int .i64 n, .int .i64 v] 33)).cell? ((⟨W.heap.size, 0, none⟩ : Addr).add j) = some u := by
  intro j u h
  match j with
  | 0 => simp at h; subst h; simp [Addr.add]
  | 1 => simp at h; subst h; simp [Addr.add]
  | j + 2 => simp at h
theorem cellKN' (W : World) (n v : Int) (S : Nat) (hS : W.heap.size = S) : ∀ j u, [Value.int .i64 n, Value.int .i64 v][j]? = some u → (W.alloc (.cells #[.int .i64 n, .int .i64 v] 33)).cell? ((⟨S, 0, none⟩ : Addr).add j) = some u := by subst hS; exact cellKN W n v
theorem rowKN {W : World} {B n : Nat} {v : Value} {ys : List Value} {xs : List (Int × Int)} (h : W.ownsRow B 33 2 v n ys) (e : ys = kcells xs) (hn : xs.length = n) : ∃ a c, v = .slice a n c ∧ Keys B (.slice a n c) xs W := by
  subst e hn
  have hK : Keys B v xs W := h
  obtain ⟨a, c, hv, _, _⟩ := hK.row
  subst hv
  exact ⟨a, c, rfl, hK⟩
theorem belowKN {w W W' : World} {v : Value} {xs : List (Int × Int)} {o : Obj} (hK : Keys w.heap.size v xs W) (hB : Below w.heap.size w W) (hg : (W.alloc o).grownBy W' v.ownBlock) : Below w.heap.size w W' :=
  (hB.alloc hB.size o).grown hg (by simp; have := hB.size; omega) (fun k e => (hK.lt k e).1)
end Go.Proofs.Ytkkjpkldfllfiaa
