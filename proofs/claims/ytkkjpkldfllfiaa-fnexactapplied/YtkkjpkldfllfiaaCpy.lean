
/- Copies of keys and of members: copied, ownMember of the program, l4Copy of the model. -/
import Derived.Test.YtkkjpkldfllfiaaMem2
import Derived.Test.YtkkjpkldfllfiaaNk
import Derived.Test.YtkkjpkldfllfiaaToKb
import Derived.Test.YtkkjpkldfllfiaaBox3
import Derived.Laws.AppendOwnNone
import Derived.Deep.RegionHeld3
namespace Go.Proofs.Ytkkjpkldfllfiaa
open Go.RowKit

theorem hidC {p : Prop} (h : p) : Hid p := h
theorem noKeys (B : Nat) (w : World) : Keys B (.slice none 0 0) [] w := ⟨by simp [kcells], .inl ⟨rfl, rfl⟩⟩
theorem keysSince {B : Nat} {v : Value} {ks : List (Int × Int)} {W W' : World} (h : Keys B v ks W) (hb : Below W.heap.size W W') : Keys B v ks W' := h.below hb (fun k e => (h.lt k e).2)

/-- Keys with keys appended. -/
theorem wpList_append_keysK {w : World} {ops : Array Oper} {rest : List Oper} {o : Oper} {a : Act} {Q : Exit → Act → World → Prop} (hgd : o.guard = none) (s x : Operand)
    (ho : o.op = .call { callee := .builtin .append, args := #[s, x], argTypes := #[24, 24] })
    (base C : Nat) (v xv : Value) (ls ks : List (Int × Int)) (hs : a.eval s = v) (hown : Keys base v ls w) (hx : a.eval x = xv) (hk : Keys C xv ks w) (hm : ls.length + ks.length ≤ 1000000) (hbase : base ≤ w.heap.size)
    (h : ∀ a' c' w', Keys base (.slice a' (ls.length + ks.length) c') (ls ++ ks) w' → w.grownBy w' v.ownBlock → wpList Try.prog ops Q rest (a.put o.dst (.slice a' (ls.length + ks.length) c')) w') : wpList Try.prog ops Q (o :: rest) a w := by
  obtain ⟨i0, hi, hz0, hz1, hz2⟩ := info_parts infoK
  rcases hk.form with ⟨rfl, rfl⟩ | ⟨g, c, rfl, _, hg, hc, _, hseg, _⟩
  · refine wpList_append_own_none hgd s x _ ho base 33 i0 2 Try.underlying24 hi v _ _ hs hown hx ?_
    obtain ⟨a', c', hv, _, _⟩ := hown.row
    have := h a' c' w (by simpa [← hv] using hown) (World.grownBy.refl _ _)
    simpa [hv] using this
  · refine wpList_append_own w hgd s x _ ho base 33 i0 (.agg #[.int .i64 0, .int .i64 0]) 2 16 Try.underlying24 hi hz0 hz1 hz2 rfl (by decide) v _ _ hs hown ⟨g, 0, none⟩ ks.length c (kcells ks) hx (kcells_length _) (news_keys hseg) (one_kcells _) (by unfold maxLen; omega) (by omega) hbase ?_
    intro v' w' h1 h2 _
    have hK : Keys base v' (ls ++ ks) w' := by
      unfold Keys
      rw [List.length_append, kcells_append]
      exact h1
    obtain ⟨a', c', hv, _, _⟩ := hK.row
    rw [List.length_append] at hv
    subst hv
    exact h a' c' w' hK h2

set_option maxRecDepth 100000 in
theorem copiedK_any {B : Nat} {v : Value} {ks : List (Int × Int)} {w : World} (h : Keys B v ks w) (hl : ks.length ≤ 100000) :
    Calls Try.prog 100 #[v] w fun e w' => ∃ a c, e = .returned (.slice a ks.length c) ∧ Keys w.heap.size (.slice a ks.length c) ks w' ∧ Below w.heap.size w w' := by
  obtain ⟨a, c, hv, _, _⟩ := h.row
  subst hv
  have HK := hidC h
  clear h
  generalize hn : ks.length = n at *
  go_enter Try.func100, Try.ntmps100
  go_wp2_with (at_builtin; refine wpList_append_keysK rfl _ _ rfl w.heap.size B (.slice none 0 0) _ [] ks rfl (noKeys _ _) rfl HK.out (by simp; omega) (Nat.le_refl _) ?_; intro a1 c1 w1 own1 gr1; simp only [List.length_nil, Nat.zero_add, List.nil_append, hn] at own1 ⊢)
  go_ret
  exact ⟨a1, c1, rfl, own1, (Below.refl _ w).grown gr1 (Nat.le_refl _) (fun j e => by cases e)⟩
end Go.Proofs.Ytkkjpkldfllfiaa
