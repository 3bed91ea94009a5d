
/- The walk of learnedSet. -/
import Derived.Test.YtkkjpkldfllfiaaLs
namespace Go.Proofs.Ytkkjpkldfllfiaa
open Go.RowKit

theorem MapF.alloc {b n : Nat} {f : K2 → Option Value} {w : World} (h : MapF b n f w) (o : Obj) : MapF b n f (w.alloc o) := h.kept ((MapKept.heap_alloc w o).2 b h.lt)
theorem Grp.look {b n : Nat} {ws : List W4} {w : World} (h : Grp b n ws w) {k : K2} (hk : Wf k) :
    ∃ v, (Instr.lookup 120 (.map (some b)) (kv k.1 k.2) false).run Try.prog w = .ok v w ∧ KArg v (grp ws k) w := by
  obtain ⟨f, h1, h2, h3, _⟩ := h
  refine ⟨_, h1.look false Try.underlying120 (zeroKeys w) hk, ?_⟩
  cases hf : f k with
  | none => rw [h2 k hf]; exact .inl ⟨rfl, rfl⟩
  | some v => exact (h3 k v hf).arg
/-- What is known of the world in a round of learnedSet. -/
def Rnd (w1 : World) (ks : List K2) (ws : List W4) (vo : Value) (st op : List K2) (W : World) : Prop :=
  Keys (w1.heap.size + 1) vo op W ∧ MapF w1.heap.size st.length (setF st) W ∧ Below w1.heap.size w1 W ∧ Onway ks ws st op

set_option maxRecDepth 100000 in
set_option maxHeartbeats 2000000 in
theorem learnedSet_any (kx wx : Value) (ks : List K2) (ws : List W4) (w : World) (hk : KArg kx ks w) (hw : WArg wx ws w) (hks : ks.length ≤ 200) (hws : ws.length ≤ 400)
    (hwk : ∀ k ∈ ks, Wf k) (hwu : ∀ x ∈ ws, Wf (wUnder x)) (hww : ∀ x ∈ ws, Wf (wKey x)) :
    Calls Try.prog 53 #[kx, wx] w fun e w' => ∃ b st, e = .returned (.map (some b)) ∧ w.heap.size ≤ b ∧ MapF b st.length (setF st) w' ∧ st.Nodup ∧ st.length ≤ 600 ∧ (∀ k, k ∈ st ↔ Lrn ks ws k) ∧ Below w.heap.size w w' := by
  have HW : Hid (WArg wx ws w) := hw
  have HK : Hid (KArg kx ks w) := hk
  clear hw hk
  have hmm := @run_makeMap Try.prog
  go_enter Try.func53, Try.ntmps53
  go_wp2_with fail
  refine (wrappedUnder_any wx ws w HW.out hws hwu).mono ?_
  rintro e w1 ⟨bu, nu, rfl, hbu, hG, hB⟩
  have HG : Hid (Grp bu nu ws w1) := hG
  have HB : Hid (Below w.heap.size w w1) := hB
  have hM0 : Hid (MapF w1.heap.size 0 (setF []) (w1.alloc (.map #[] 0))) := MapF.made w1
  have hs1 : w.heap.size ≤ w1.heap.size := hB.size
  clear hG hB
  go_wp2_with fail
  refine (clone_any kx ks _ ((HK.out.below HB.out).below (one_below _ _)) (by omega)).mono ?_
  rintro e w2 ⟨v2, rfl, hk2, hb2⟩
  simp only [World.size_alloc] at hk2 hb2
  have HR : Hid (Rnd w1 ks ws v2 [] ks w2) := ⟨hk2, hM0.out.kept (hb2.block _ (by omega)), (one_below w1 _).trans (hb2.mono (by omega)), Onway.start hwk⟩
  clear hk2 hb2 hM0
  obtain ⟨pf, HPF⟩ : ∃ f : World → Nat, Hid (∀ (n : Nat) (st : List K2) (w : World), MapF w1.heap.size n (setF st) w → f w = pend ws st) := pendW_some w1.heap.size ws
  go_wp2
  go_loopw [7] (fun vo wr => ∃ st op, Hid (Rnd w1 ks ws vo st op wr)) (fun vo wr => lenV vo + pf wr)
  case atStart => exact ⟨[], ks, HR⟩
  case round =>
    obtain ⟨st, op, HI⟩ := hrel
    clear HR
    rcases List.eq_nil_or_concat op with hnil | ⟨op1, ky, hop⟩
    · obtain ⟨o1, o2, o3, o4⟩ := HI.out
      subst hnil
      obtain ⟨a7, c7, h7⟩ : ∃ a c, u7 = .slice a 0 c := by
        rcases o1.form with ⟨e, _⟩ | ⟨g, c, e, _⟩
        · exact ⟨none, 0, e⟩
        · exact ⟨_, c, e⟩
      subst h7
      clear o1
      go_wp2
      go_ret
      exact ⟨_, st, rfl, hs1, o2, o4.nodup, by have := o4.few; simp at this; omega, o4.done, HB.out.trans (o3.mono hs1)⟩
    · rw [List.concat_eq_append] at hop
      subst hop
      obtain ⟨o1, o2, o3, o4⟩ := HI.out
      obtain ⟨x, y⟩ := ky
      obtain ⟨g, cap, hv, hBg, hgl, hoc, hcm, hseg, hfz⟩ : ∃ g cap, u7 = .slice (some ⟨g, 0, none⟩) (op1 ++ [(x, y)]).length cap ∧ w1.heap.size + 1 ≤ g ∧ g < wr.heap.size ∧ (op1 ++ [(x, y)]).length ≤ cap ∧ cap ≤ maxLen ∧ KSeg g 0 (op1 ++ [(x, y)]) wr ∧ True := by
        rcases o1.form with ⟨_, e⟩ | ⟨g, c, e, e1, e2, e3, e4, e5, _⟩
        · simp at e
        · exact ⟨g, c, e, e1, e2, e3, e4, e5, trivial⟩
      clear hfz
      unfold maxLen at hcm
      generalize hnl : (op1 ++ [(x, y)]).length = n at hv hoc
      have hn1 : n = op1.length + 1 := by rw [← hnl]; simp
      have hnp : 0 < n := by omega
      obtain ⟨a1, a2⟩ := hseg op1.length (by simp)
      have ex : (op1 ++ [(x, y)])[op1.length]'(by simp) = (x, y) := by simp
      rw [ex] at a1 a2
      have em : op1.length = n - 1 := by omega
      simp only [Nat.zero_add, em] at a1 a2
      have hwxy : Wf (x, y) := o4.wfO (x, y) (by simp)
      have hfew := o4.few
      rw [hnl] at hfew
      have hpn := HPF.out _ _ _ o2
      have hcut : Hid (Keys (w1.heap.size + 1) (.slice (some ⟨g, 0, none⟩) (n - 1) cap) op1 wr) := by
        have := (hv ▸ o1).cut op1.length (by simp)
        rw [em] at this
        rw [← em, List.take_left] at this
        rw [← em]
        exact this
      subst hv
      have HM : Hid (MapF w1.heap.size st.length (setF st) wr) := o2
      have HO : Hid (Onway ks ws st (op1 ++ [(x, y)])) := o4
      have HBr : Hid (Below w1.heap.size w1 wr) := o3
      have hs2 := o3.size
      have hml : w1.heap.size < wr.heap.size := o2.lt
      have HN : Hid (n = op1.length + 1) := hn1
      have HP : Hid (pf wr = pend ws st) := hpn
      clear hseg ex o1 o2 o3 o4 HI hn1 em hnl hpn
      by_cases hin : (x, y) ∈ st
      · have hL : (Instr.lookup 90 (.map (some w1.heap.size)) (kv x y) true).run Try.prog (wr.alloc (kb x y)) = .ok (.tuple #[unitV, .bool true]) (wr.alloc (kb x y)) := by
          have := (HM.out.alloc (kb x y)).look true Try.underlying90 (zeroUnit _) hwxy
          simpa [setF, hin] using this
        go_wp2
        go_roundw
        case rel => exact ⟨st, op1, hcut.out.below (two_below _ _ _) (fun j e => (hcut.out.lt j e).2), (HM.out.alloc _).alloc _, (HBr.out.alloc hs2 _).alloc (by simp; omega) _, HO.out.skip hin⟩
        case measure =>
          have e1 : pf ((wr.alloc (kb x y)).alloc (.cells #[] 123)) = pend ws st := HPF.out _ _ _ ((HM.out.alloc _).alloc _)
          simp only [lenV]
          rw [HP.out]
          simp only [e1]
          omega
      · have hL : (Instr.lookup 90 (.map (some w1.heap.size)) (kv x y) true).run Try.prog (wr.alloc (kb x y)) = .ok (.tuple #[unitV, .bool false]) (wr.alloc (kb x y)) := by
          have := (HM.out.alloc (kb x y)).look true Try.underlying90 (zeroUnit _) hwxy
          simpa [setF, hin] using this
        have hgl2 : (grp ws (x, y)).length ≤ 400 := by have := grp_length ws (x, y); omega
        go_wp2_with (first
          | (refine wpList_setPut rfl _ _ _ rfl w1.heap.size st.length st (x, y) rfl rfl rfl ((HM.out.alloc _).alloc _) (by unfold maxLen; omega) hwxy ?_; intro w3 hM3 g3; have hB3 : Below w1.heap.size w1 w3 := ((HBr.out.alloc hs2 _).alloc (by simp; omega) _).grown g3 (by simp; omega) (fun j e => by cases e; exact Nat.le_refl _); obtain ⟨vg, hLg, hKg⟩ := (HG.out.below hB3).look hwxy; have hc3 : Hid (Keys (w1.heap.size + 1) (.slice (some ⟨g, 0, none⟩) (n - 1) cap) op1 w3) := (hcut.out.below (two_below _ _ _) (fun j e => (hcut.out.lt j e).2)).kept g3 (fun j e e2 => by cases e; simp [Value.ownBlock] at e2; omega); have d0 : w3.cell? ⟨wr.heap.size, 0, none⟩ = some (.int .i64 x) := g3.cell (by simp) (by simp; omega); have d1 : w3.cell? ⟨wr.heap.size, 1, none⟩ = some (.int .i64 y) := g3.cell (by simp) (by simp; omega); have hs3 := hB3.size; have HB3 : Hid (Below w1.heap.size w1 w3) := hB3; have HM3 : Hid (MapF w1.heap.size (st.length + 1) (setF ((x, y) :: st)) w3) := hM3; have HKg : Hid (KArg vg (grp ws (x, y)) w3) := hKg; have hm3 := hM3.lt; clear hM3 g3 hB3 hKg)
          | (at_builtin; refine wpList_append_keys rfl _ _ rfl (w1.heap.size + 1) (.slice (some ⟨g, 0, none⟩) (n - 1) cap) vg op1 (grp ws (x, y)) rfl hc3.out rfl HKg.out (by have := HN.out; omega) (by omega) ?_; intro v4 w4 own4 gr4 nil4))
        have HM4 : Hid (MapF w1.heap.size (st.length + 1) (setF ((x, y) :: st)) w4) := HM3.out.kept (gr4.block _ (by omega) (by simp [Value.ownBlock]; omega))
        go_roundw
        case rel => exact ⟨(x, y) :: st, op1 ++ grp ws (x, y), own4, HM4.out, HB3.out.grown gr4 hs3 (fun j e => by simp [Value.ownBlock] at e; omega), HO.out.take hin hww⟩
        case measure =>
          have e1 := HPF.out _ _ _ HM4.out
          have e2 := pend_put ws st (x, y) hin
          have e3 : lenV v4 = (op1 ++ grp ws (x, y)).length := by
            rcases own4.form with ⟨e, e2⟩ | ⟨g, c, e, _⟩
            · rw [e, e2]; rfl
            · rw [e]; rfl
          have e4 := HN.out
          simp only [lenV]
          rw [HP.out]
          simp only [e1]
          rw [List.length_append] at e3
          simp only [lenV] at e3
          rw [e3]
          omega
end Go.Proofs.Ytkkjpkldfllfiaa
