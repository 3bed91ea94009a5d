
/- Copies of keys and of members: copied, ownMember of the program, l4Copy of the model. -/
import Derived.Test.YtplinjepeahahaaMem2
import Derived.Test.YtplinjepeahahaaNk
import Derived.Test.YtplinjepeahahaaToKb
import Derived.Test.YtplinjepeahahaaBox3
import Derived.Laws.AppendOwnNone
import Derived.Deep.RegionHeld3
namespace Go.Proofs.Ytplinjepeahahaa
open Go.RowKit

theorem hidC {p : Prop} (h : p) : Hid p := h
theorem noKeys (B : Nat) (w : World) : Keys B (.slice none 0 0) [] w := ⟨by simp [kcells], .inl ⟨rfl, rfl⟩⟩
theorem keysSince {B : Nat} {v : Value} {ks : List (Int × Int)} {W W' : World} (h : Keys B v ks W) (hb : Below W.heap.size W W') : Keys B v ks W' := h.below hb (fun k e => (h.lt k e).2)

/-- Keys with keys appended. -/
theorem wpList_append_keysK {w : World} {ops : Array Oper} {rest : List Oper} {o : Oper} {a : Act} {Q : Exit → Act → World → Prop} (hgd : o.guard = none) (s x : Operand)
    (ho : o.op = .call { callee := .builtin .append, args := #[s, x], argTypes := #[43, 43] })
    (base C : Nat) (v xv : Value) (ls ks : List (Int × Int)) (hs : a.eval s = v) (hown : Keys base v ls w) (hx : a.eval x = xv) (hk : Keys C xv ks w) (hm : ls.length + ks.length ≤ 1000000) (hbase : base ≤ w.heap.size)
    (h : ∀ a' c' w', Keys base (.slice a' (ls.length + ks.length) c') (ls ++ ks) w' → w.grownBy w' v.ownBlock → wpList Try.prog ops Q rest (a.put o.dst (.slice a' (ls.length + ks.length) c')) w') : wpList Try.prog ops Q (o :: rest) a w := by
  obtain ⟨i0, hi, hz0, hz1, hz2⟩ := info_parts infoK
  rcases hk.form with ⟨rfl, rfl⟩ | ⟨g, c, rfl, _, hg, hc, _, hseg, _⟩
  · refine wpList_append_own_none hgd s x _ ho base 38 i0 2 Try.underlying43 hi v _ _ hs hown hx ?_
    obtain ⟨a', c', hv, _, _⟩ := hown.row
    have := h a' c' w (by simpa [← hv] using hown) (World.grownBy.refl _ _)
    simpa [hv] using this
  · refine wpList_append_own w hgd s x _ ho base 38 i0 (.agg #[.int .i64 0, .int .i64 0]) 2 16 Try.underlying43 hi hz0 hz1 hz2 rfl (by decide) v _ _ hs hown ⟨g, 0, none⟩ ks.length c (kcells ks) hx (kcells_length _) (news_keys hseg) (one_kcells _) (by unfold maxLen; omega) (by omega) hbase ?_
    intro v' w' h1 h2 _
    have hK : Keys base v' (ls ++ ks) w' := by
      unfold Keys
      rw [List.length_append, kcells_append]
      exact h1
    obtain ⟨a', c', hv, _, _⟩ := hK.row
    rw [List.length_append] at hv
    subst hv
    exact h a' c' w' hK h2

end Go.Proofs.Ytplinjepeahahaa
