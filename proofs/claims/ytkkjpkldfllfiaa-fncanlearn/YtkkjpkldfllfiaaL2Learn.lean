
/- The contract of the model's l2Learned. -/
import Derived.Test.YtkkjpkldfllfiaaLm
import Derived.Test.YtkkjpkldfllfiaaRegS
import Derived.Laws.AppendOwnNone
namespace Go.Proofs.Ytkkjpkldfllfiaa
open Go.RowKit

/-- An argument holds these keys: nil, or a row from its block's first cell on. -/
def KArg (v : Value) (ks : List K2) (w : World) : Prop := (v = .slice none 0 0 ∧ ks = []) ∨ ∃ g c, v = .slice (some ⟨g, 0, none⟩) ks.length c ∧ g < w.heap.size ∧ ks.length ≤ c ∧ KSeg g 0 ks w
def WArg (v : Value) (ws : List W4) (w : World) : Prop := (v = .slice none 0 0 ∧ ws = []) ∨ ∃ g c, v = .slice (some ⟨g, 0, none⟩) ws.length c ∧ g < w.heap.size ∧ ws.length ≤ c ∧ WSeg g 0 ws w
theorem KArg.below {v : Value} {ks : List K2} {w w' : World} (h : KArg v ks w) (hb : Below w.heap.size w w') : KArg v ks w' := by
  rcases h with h | ⟨g, c, h1, h2, h3, h4⟩
  · exact .inl h
  · exact .inr ⟨g, c, h1, by have := hb.size; omega, h3, h4.kept (hb.block g h2)⟩
theorem WArg.below {v : Value} {ws : List W4} {w w' : World} (h : WArg v ws w) (hb : Below w.heap.size w w') : WArg v ws w' := by
  rcases h with h | ⟨g, c, h1, h2, h3, h4⟩
  · exact .inl h
  · exact .inr ⟨g, c, h1, by have := hb.size; omega, h3, h4.kept (hb.block g h2)⟩
theorem Keys.arg {B : Nat} {v : Value} {ks : List K2} {w : World} (h : Keys B v ks w) : KArg v ks w := by
  rcases h.form with h | ⟨g, c, h1, _, h2, h3, _, h4, _⟩
  · exact .inl h
  · exact .inr ⟨g, c, h1, h2, h3, h4⟩
theorem Wraps.arg {B : Nat} {v : Value} {ks : List W4} {w : World} (h : Wraps B v ks w) : WArg v ks w := by
  rcases h.form with h | ⟨g, c, h1, _, h2, h3, _, h4, _⟩
  · exact .inl h
  · exact .inr ⟨g, c, h1, h2, h3, h4⟩

/-- Keys with keys appended. -/
theorem wpList_append_keys {w : World} {ops : Array Oper} {rest : List Oper} {o : Oper} {a : Act} {Q : Exit → Act → World → Prop} (hgd : o.guard = none) (s x : Operand)
    (ho : o.op = .call { callee := .builtin .append, args := #[s, x], argTypes := #[24, 24] })
    (base : Nat) (v xv : Value) (ls ks : List K2) (hs : a.eval s = v) (hown : Keys base v ls w) (hx : a.eval x = xv) (hk : KArg xv ks w) (hm : ls.length + ks.length ≤ 1000000) (hbase : base ≤ w.heap.size)
    (h : ∀ v' w', Keys base v' (ls ++ ks) w' → w.grownBy w' v.ownBlock → (v' = .slice none 0 0 ↔ v = .slice none 0 0 ∧ ks.length = 0) → wpList Try.prog ops Q rest (a.put o.dst v') w') : wpList Try.prog ops Q (o :: rest) a w := by
  obtain ⟨i0, hi, hz0, hz1, hz2⟩ := info_parts infoKey
  rcases hk with ⟨rfl, rfl⟩ | ⟨g, c, rfl, hg, hc, hseg⟩
  · refine wpList_append_own_none hgd s x _ ho base 33 i0 2 Try.underlying24 hi v _ _ hs hown hx ?_
    exact h v w (by simpa using hown) (World.grownBy.refl _ _) (by simp)
  · refine wpList_append_own w hgd s x _ ho base 33 i0 (.agg #[.int .i64 0, .int .i64 0]) 2 16 Try.underlying24 hi hz0 hz1 hz2 rfl (by decide) v _ _ hs hown ⟨g, 0, none⟩ ks.length c (kcells ks) hx (kcells_length _) (news_keys hseg) (one_kcells _) (by unfold maxLen; omega) (by omega) hbase ?_
    intro v' w' h1 h2 h3
    refine h v' w' ?_ h2 h3
    unfold Keys
    rw [List.length_append, kcells_append]
    exact h1

theorem hidOf {p : Prop} (h : p) : Hid p := h
def lenV : Value → Nat
  | .slice _ n _ => n
  | _ => 0
def flagV : Value → Nat
  | .bool true => 1
  | _ => 0

/-- What is known within a round of l2Learned: the wrap's cells, the keys so far. -/
def Ls (wB : World) (B g cap : Nat) (out : List K2) (p1 p2 p3 p4 : Addr) (u1 u2 k1 k2 : Int) (W : World) : Prop :=
  W.cell? p1 = some (.int .i64 u1) ∧ W.cell? p2 = some (.int .i64 u2) ∧ W.cell? p3 = some (.int .i64 k1) ∧ W.cell? p4 = some (.int .i64 k2) ∧ (KSeg g 0 out W ∧ g < W.heap.size) ∧
    Keys B (.slice (some ⟨g, 0, none⟩) out.length cap) out W ∧ Below B wB W
theorem Ls.later {wB W W' : World} {B g cap : Nat} {out : List K2} {p1 p2 p3 p4 : Addr} {u1 u2 k1 k2 : Int} (hB : B ≤ W.heap.size) (h : Ls wB B g cap out p1 p2 p3 p4 u1 u2 k1 k2 W) (hb : Below W.heap.size W W') : Ls wB B g cap out p1 p2 p3 p4 u1 u2 k1 k2 W' :=
  ⟨cell_since h.1 hb, cell_since h.2.1 hb, cell_since h.2.2.1 hb, cell_since h.2.2.2.1 hb, ⟨h.2.2.2.2.1.1.kept (hb.block g h.2.2.2.2.1.2), by have := hb.size; have := h.2.2.2.2.1.2; omega⟩,
    h.2.2.2.2.2.1.below hb (fun k e => by simp [Value.ownBlock] at e; subst e; exact h.2.2.2.2.1.2), h.2.2.2.2.2.2.trans (hb.mono hB)⟩

set_option maxRecDepth 100000 in
set_option maxHeartbeats 2000000 in
theorem l2Learned_any (kx wx : Value) (ks : List K2) (ws : List W4) (w : World) (hk : KArg kx ks w) (hw : WArg wx ws w) (hks : ks.length ≤ 200) (hws : ws.length ≤ 400) (hr : Rise ks) :
    Calls Try.prog 55 #[kx, wx] w fun e w' => ∃ v out, e = .returned v ∧ v ≠ .slice none 0 0 ∧ Keys w.heap.size v out w' ∧ Rise out ∧ (∀ k, k ∈ out ↔ Lrn ks ws k) ∧ out.length ≤ 600 ∧ Below w.heap.size w w' := by
  have HK : Hid (KArg kx ks (w.alloc (.cells #[] 33))) := hk.below (one_below _ _)
  have HW : Hid (WArg wx ws w) := hw
  have HR : Hid (Rise ks) := hr
  have hE := emptyK w w.heap.size (Nat.le_refl _)
  clear hk hw hr
  obtain ⟨n, hn⟩ : ∃ n, ws.length = n := ⟨_, rfl⟩
  obtain ⟨aw, cw, hwx⟩ : ∃ aw cw, wx = .slice aw n cw := by
    rcases HW.out with ⟨h, h2⟩ | ⟨g, c, h, _⟩
    · exact ⟨none, 0, by rw [h, ← hn, h2]; rfl⟩
    · exact ⟨_, c, by rw [h, hn]⟩
  subst hwx
  go_enter Try.func55, Try.ntmps55
  go_wp2_with (at_builtin; refine wpList_append_keys rfl _ _ rfl w.heap.size (.slice (some ⟨w.heap.size, 0, none⟩) 0 0) kx [] ks rfl hE rfl HK.out (by simp; omega) (by simp) ?_; intro v1 w1 own1 gr1 nil1)
  have hB1 : Below w.heap.size w w1 := ((Below.refl _ w).alloc (Nat.le_refl _) _).grown gr1 (by simp) (fun j e => by simp [Value.ownBlock] at e; omega)
  have hn1 : v1 ≠ .slice none 0 0 := fun e => by have := (nil1.1 e).1; cases this
  have own1' : Keys w.heap.size v1 ks w1 := by simpa using own1
  have hS0 : Sofar ks ws ks := Sofar.start ks ws HR.out
  clear nil1 own1 gr1 hE HK
  have O1 : Hid (Keys w.heap.size v1 ks w1 ∧ v1 ≠ .slice none 0 0 ∧ Sofar ks ws ks ∧ Below w.heap.size w w1) := ⟨own1', hn1, hS0, hB1⟩
  clear own1' hn1 hS0 hB1
  go_loopw [5, 6] (fun vo vm wr => ∃ out b, vm = .bool b ∧ Hid (b = false → ∀ x ∈ ws, wUnder x ∈ out → wKey x ∈ out) ∧ Hid (Keys w.heap.size vo out wr ∧ vo ≠ .slice none 0 0 ∧ Sofar ks ws out ∧ Below w.heap.size w wr)) (fun vo vm _ => (600 - lenV vo) * 2 + flagV vm)
  case atStart => exact ⟨ks, true, rfl, hidOf fun h => absurd h (by decide), O1⟩
  case round =>
    obtain ⟨out0, b, rfl, HC, HO⟩ := hrel
    clear O1
    cases b with
    | false =>
      go_wp2
      go_ret
      obtain ⟨o1, o2, o3, o4⟩ := HO.out
      exact ⟨_, rfl, o2, out0, o1, o3.rise, fun a b => o3.done (HC.out (by simp)) (a, b), by have := o3.few; omega, o4⟩
    | true =>
      clear HC
      have hlen0 : lenV u5 = out0.length := by
        rcases HO.out.1.form with ⟨e, e2⟩ | ⟨g, c, e, _⟩
        · rw [e, e2]; rfl
        · rw [e]; rfl
      have hf0 := HO.out.2.2.1.few
      go_wp2
      go_loopw [5, 6, 7] (fun vo vm vi wr => ∃ (k : Nat) (out : List K2) (b : Bool), k ≤ n ∧ vi = .int .i64 k ∧ vm = .bool b ∧ Hid (b = false → out = out0 ∧ ∀ i (hi : i < ws.length), i < k → wUnder ws[i] ∈ out → wKey ws[i] ∈ out) ∧ Hid (b = true → out0.length < out.length) ∧
        Hid (Keys w.heap.size vo out wr ∧ vo ≠ .slice none 0 0 ∧ Sofar ks ws out ∧ Below w.heap.size w wr)) (fun _ _ vi _ => n - (intOf vi).toNat)
      case atStart => exact ⟨0, out0, false, Nat.zero_le _, rfl, rfl, hidOf fun _ => ⟨rfl, fun _ _ h => absurd h (Nat.not_lt_zero _)⟩, hidOf fun h => absurd h (by decide), HO⟩
      case round =>
        obtain ⟨k, out, b, hk, rfl, rfl, HC, HG, HI⟩ := hrel
        by_cases hlt : k < n
        · have hlk : k < ws.length := by omega
          obtain ⟨o1, o2, o3, o4⟩ := HI.out
          obtain ⟨g, cap, hv, hBg, hgl, hoc, hcm, hseg⟩ : ∃ g cap, u5 = .slice (some ⟨g, 0, none⟩) out.length cap ∧ w.heap.size ≤ g ∧ g < wr.heap.size ∧ out.length ≤ cap ∧ cap ≤ maxLen ∧ KSeg g 0 out wr := by
            rcases o1.form with ⟨e, _⟩ | ⟨g, c, e, e1, e2, e3, e4, e5, _⟩
            · exact absurd e o2
            · exact ⟨g, c, e, e1, e2, e3, e4, e5⟩
          obtain ⟨gw, haw, hgw, hwseg⟩ : ∃ gw, aw = some ⟨gw, 0, none⟩ ∧ gw < w.heap.size ∧ WSeg gw 0 ws w := by
            rcases HW.out with ⟨_, e⟩ | ⟨gw, c, e, e1, _, e2⟩
            · rw [e] at hlk; simp at hlk
            · injection e with e; exact ⟨gw, e, e1, e2⟩
          subst hv haw
          obtain ⟨a1, a2, a3, a4⟩ := hwseg k hlk
          simp only [Nat.zero_add] at a1 a2 a3 a4
          have hxm : ws[k] ∈ ws := List.getElem_mem hlk
          obtain ⟨u1, u2, k1, k2, hX⟩ : ∃ u1 u2 k1 k2, ws[k] = (u1, u2, k1, k2) := ⟨_, _, _, _, rfl⟩
          have HX : Hid (ws[k] = (u1, u2, k1, k2)) := hX
          have HM : Hid ((u1, u2, k1, k2) ∈ ws) := by rw [hX] at hxm; exact hxm
          rw [hX] at a1 a2 a3 a4
          have hL : Hid (Ls w w.heap.size g cap out ⟨gw, k * 4, none⟩ ⟨gw, k * 4 + 1, none⟩ ⟨gw, k * 4 + 2, none⟩ ⟨gw, k * 4 + 3, none⟩ u1 u2 k1 k2 wr) :=
            ⟨(o4.cell (p := ⟨gw, k * 4, none⟩) hgw).trans a1, (o4.cell (p := ⟨gw, k * 4 + 1, none⟩) hgw).trans a2, (o4.cell (p := ⟨gw, k * 4 + 2, none⟩) hgw).trans a3, (o4.cell (p := ⟨gw, k * 4 + 3, none⟩) hgw).trans a4, ⟨hseg, hgl⟩, o1, o4⟩
          have hsz := o4.size
          have hfew := o3.few
          clear o1 o2 o4 hseg hwseg a1 a2 a3 a4 hX hxm HI
          have c1 := hL.out.1
          have c2 := hL.out.2.1
          go_wp2_with fail
          refine (l2Has_row g cap out u1 u2 wr (by unfold maxLen; omega) hgl hL.out.2.2.2.2.1.1).mono ?_
          rintro e w2 ⟨rfl, hb⟩
          have hL2 : Hid (Ls w w.heap.size g cap out ⟨gw, k * 4, none⟩ ⟨gw, k * 4 + 1, none⟩ ⟨gw, k * 4 + 2, none⟩ ⟨gw, k * 4 + 3, none⟩ u1 u2 k1 k2 w2) := hL.out.later hsz hb
          have hsz2 := hb.size
          clear hb hL c1 c2
          by_cases hu : (u1, u2) ∈ out
          · rw [decide_eq_true hu]
            have c3 := hL2.out.2.2.1
            have c4 := hL2.out.2.2.2.1
            go_wp2_with fail
            refine (l2Has_row g cap out k1 k2 w2 (by unfold maxLen; omega) (by omega) hL2.out.2.2.2.2.1.1).mono ?_
            rintro e w3 ⟨rfl, hb⟩
            have hL3 : Hid (Ls w w.heap.size g cap out ⟨gw, k * 4, none⟩ ⟨gw, k * 4 + 1, none⟩ ⟨gw, k * 4 + 2, none⟩ ⟨gw, k * 4 + 3, none⟩ u1 u2 k1 k2 w3) := hL2.out.later (by omega) hb
            have hsz3 := hb.size
            clear hb hL2 c3 c4
            by_cases hkk : (k1, k2) ∈ out
            · rw [decide_eq_true hkk]
              go_wp2
              go_roundw
              case rel =>
                refine ⟨k + 1, out, b, by omega, by go_num, rfl, hidOf fun hb => ⟨(HC.out hb).1, fun i hi hik hun => ?_⟩, HG, hL3.out.2.2.2.2.2.1, by simp, o3, hL3.out.2.2.2.2.2.2⟩
                by_cases e : i = k
                · subst e; rw [HX.out]; exact hkk
                · exact (HC.out hb).2 i hi (by omega) hun
              case measure => simp [intOf]; omega
            · rw [decide_eq_false hkk]
              have c3 := hL3.out.2.2.1
              have c4 := hL3.out.2.2.2.1
              go_wp2_with fail
              refine (l2Put_row g cap out k1 k2 w3 hoc (by omega) (by omega) hL3.out.2.2.2.2.1.1).mono ?_
              rintro e w4 ⟨v4, rfl, hn4, hk4, hb⟩
              obtain ⟨hS4, hl4⟩ := o3.put _ HM.out hu hkk
              have e4 := putL_eq out (k1, k2)
              simp only at e4
              rw [e4] at hk4
              have H4 : Hid (Keys w.heap.size v4 (putR out (k1, k2)) w4 ∧ v4 ≠ .slice none 0 0 ∧ Sofar ks ws (putR out (k1, k2)) ∧ Below w.heap.size w w4) := ⟨hk4.mono (by omega), hn4, hS4, hL3.out.2.2.2.2.2.2.trans (hb.mono (by omega))⟩
              clear hk4 hn4 hS4 hb e4 hL3 c3 c4
              go_wp2
              go_roundw
              case rel =>
                refine ⟨k + 1, putR out (k1, k2), true, by omega, by go_num, rfl, hidOf fun hb => absurd hb (by decide), hidOf fun _ => ?_, H4⟩
                rw [hl4]
                cases b with
                | false => rw [(HC.out rfl).1]; omega
                | true => have := HG.out rfl; omega
              case measure => simp [intOf]; omega
          · rw [decide_eq_false hu]
            go_wp2
            go_roundw
            case rel =>
              refine ⟨k + 1, out, b, by omega, by go_num, rfl, hidOf fun hb => ⟨(HC.out hb).1, fun i hi hik hun => ?_⟩, HG, hL2.out.2.2.2.2.2.1, by simp, o3, hL2.out.2.2.2.2.2.2⟩
              by_cases e : i = k
              · subst e; rw [HX.out] at hun; exact absurd hun hu
              · exact (HC.out hb).2 i hi (by omega) hun
            case measure => simp [intOf]; omega
        · go_wp2
          have hlen : lenV u5 = out.length := by
            rcases HI.out.1.form with ⟨e, e2⟩ | ⟨g, c, e, _⟩
            · rw [e, e2]; rfl
            · rw [e]; rfl
          have hfew := HI.out.2.2.1.few
          refine ⟨⟨out, b, rfl, hidOf fun hb x hx hu => ?_, HI⟩, ?_⟩
          · obtain ⟨i, hi, rfl⟩ := List.getElem_of_mem hx
            exact (HC.out hb).2 i hi (by omega) hu
          · rw [hlen, hlen0]
            cases b with
            | false => rw [(HC.out rfl).1]; simp [flagV]
            | true => have := HG.out rfl; simp only [flagV]; omega
end Go.Proofs.Ytkkjpkldfllfiaa
