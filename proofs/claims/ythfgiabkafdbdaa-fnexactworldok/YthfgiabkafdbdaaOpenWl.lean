
/- A world of the laws that came in, opened. -/
import Derived.Test.YthfgiabkafdbdaaOpenSrv
import Derived.Test.YthfgiabkafdbdaaOpenKeys
import Derived.Test.YthfgiabkafdbdaaOpenWraps
import Derived.Test.YthfgiabkafdbdaaWlSz
import Derived.Deep.Strs
import Derived.Lib.SmallJoins
namespace Go.Proofs.Ythfgiabkafdbdaa
open Go.ChangeShapes Go.WideShapes Go.ChangeAt Go.RowKit Go.Deep Go.Joins

theorem cells_lmem : Try.prog.cellsOf 116 = 3 := by kernel_rfl
theorem cells_lmail : Try.prog.cellsOf 122 = 3 := by kernel_rfl
theorem cells_lrekey : Try.prog.cellsOf 120 = 2 := by kernel_rfl
theorem cells_lkeys : Try.prog.cellsOf 114 = 1 := by kernel_rfl
theorem cells_lwraps : Try.prog.cellsOf 118 = 1 := by kernel_rfl
theorem list_three {l : List Value} (h : l.length = 3) : ∃ a b c, l = [a, b, c] := by
  match l, h with
  | [a, b, c], _ => exact ⟨a, b, c, rfl⟩
theorem member_cells {H : Type} {enc : TypeId × Value → H} {W : World} {n : Nat} {cs : List Value} {x : DataW H × List MemPlace}
    (h : DataW.trod enc Try.prog W 0 (fun _ => true) true n 116 cs = some x) : ∃ (a b : Int) (v : Value) (ks : List (Int × Int)), cs = [.int .i64 a, .int .i64 b, v] ∧ InKeys v ks W := by
  obtain ⟨y0, y1, y2, m, _, hl, h0, h1, h2⟩ := trod_struct3 Try.underlying116 h
  rw [cells_lmem] at hl
  obtain ⟨c0, c1, c2, rfl⟩ := list_three hl
  obtain ⟨a, e0, _, _⟩ := DataW.trod_int Try.underlying2 h0
  obtain ⟨b, e1, _, _⟩ := DataW.trod_int Try.underlying2 h1
  rw [cells_i64] at e0 e1
  simp at e0 e1
  have h2' : DataW.trod enc Try.prog W 0 (fun _ => true) true m 114 [c2] = some y2 := by
    rw [cells_lkeys] at h2
    simpa using h2
  obtain ⟨ks, hk⟩ := inKeys_of h2'
  exact ⟨a, b, c2, ks, by rw [e0, e1], hk⟩
theorem mail_cells {H : Type} {enc : TypeId × Value → H} {W : World} {n : Nat} {cs : List Value} {x : DataW H × List MemPlace}
    (h : DataW.trod enc Try.prog W 0 (fun _ => true) true n 122 cs = some x) : ∃ (a b : Int) (v : Value) (ws : List W4), cs = [.int .i64 a, .int .i64 b, v] ∧ InWraps v ws W := by
  obtain ⟨y0, y1, m, _, hl, h0, h1⟩ := trod_struct2 Try.underlying122 h
  rw [cells_lmail] at hl
  obtain ⟨c0, c1, c2, rfl⟩ := list_three hl
  obtain ⟨a, e0, _, _⟩ := DataW.trod_int Try.underlying2 h0
  rw [cells_i64] at e0
  simp at e0
  have h1' : DataW.trod enc Try.prog W 0 (fun _ => true) true m 120 [c1, c2] = some y1 := by
    rw [cells_lrekey] at h1
    simpa using h1
  obtain ⟨z0, z1, m2, _, hl2, g0, g1⟩ := trod_struct2 Try.underlying120 h1'
  obtain ⟨b, e1, _, _⟩ := DataW.trod_int Try.underlying2 g0
  rw [cells_i64] at e1
  simp at e1
  have g1' : DataW.trod enc Try.prog W 0 (fun _ => true) true m2 118 [c2] = some z1 := by
    rw [cells_lwraps] at g1
    simpa using g1
  obtain ⟨ws, hk⟩ := inWraps_of g1'
  exact ⟨a, b, c2, ws, by rw [e0, e1], hk⟩

theorem add3 (a : Addr) (i : Nat) : (a.add (i * 3)).add 0 = a.add (i * 3) ∧ (a.add (i * 3)).add 1 = a.add (i * 3 + 1) ∧ (a.add (i * 3)).add 2 = a.add (i * 3 + 2) := by
  by_cases hz : i * 3 = 0
  · simp [Addr.add, hz]
  · simp [Addr.add, hz, Nat.add_assoc]
/-- Structs of three cells, read one by one, are a list of them. -/
theorem erd_of {α : Type} {P : Value → List α → World → Prop} {W : World} {a : Addr} {len cap m : Nat} (hl : len ≤ m) (hm : len ≤ maxLen)
    (hk : ∀ i, i < m → ∃ (d : Int × Int × List α), ∃ u, W.cell? (a.add (i * 3)) = some (.int .i64 d.1) ∧ W.cell? (a.add (i * 3 + 1)) = some (.int .i64 d.2.1) ∧ W.cell? (a.add (i * 3 + 2)) = some u ∧ P u d.2.2 W) : ∃ ds, ERd P (.slice (some a) len cap) ds W := by
  obtain ⟨K, hK⟩ := choose_lt hk
  by_cases h0 : len = 0
  · subst h0
    exact ⟨[], .inl ⟨_, _, rfl, rfl⟩⟩
  · obtain ⟨u0, hu0, _⟩ := hK 0 (by omega)
    obtain ⟨b, off, rfl⟩ := addr_spot hu0
    refine ⟨(List.range len).map K, .inr ⟨b, off, cap, by simp, ?_, by simp; omega, fun i hi => ?_⟩⟩
    · have := World.block_lt_of_cell? _ _ hu0
      simpa [Addr.add] using this
    · have hi' : i < len := by simpa using hi
      obtain ⟨u, h1, h2, h3, h4⟩ := hK i (by omega)
      rw [Addr.add_mid] at h1 h2 h3
      exact ⟨u, by simpa using h1, by simpa [Nat.add_assoc] using h2, by simpa [Nat.add_assoc] using h3, by simpa using h4⟩

theorem inMems_of {H : Type} {enc : TypeId × Value → H} {W : World} {fuel : Nat} {v : Value} {x : DataW H × List MemPlace}
    (h : DataW.trod enc Try.prog W 0 (fun _ => true) true fuel 54 [v] = some x) : ∃ ds, InMems v ds W := by
  rcases open_slice Try.underlying54 h with ⟨hcs, _⟩ | ⟨a, len, cap, m, n, D, Pl, hcs, _, hl, hm, hmm, _, hel⟩
  · simp at hcs
    exact ⟨[], .inl ⟨_, _, hcs, rfl⟩⟩
  · simp at hcs
    subst hcs
    simp only [if_true] at hmm
    refine erd_of (m := m) (by omega) (by omega) fun i hi => ?_
    obtain ⟨cs', h1, h2⟩ := hel i hi
    obtain ⟨p, q, u, ks, rfl, hk⟩ := member_cells h2
    rw [cells_lmem] at h1
    obtain ⟨_, _, h3⟩ := World.cells?_some h1
    have g0 := h3 0 (by omega)
    have g1 := h3 1 (by omega)
    have g2 := h3 2 (by omega)
    rw [(add3 a i).1] at g0
    rw [(add3 a i).2.1] at g1
    rw [(add3 a i).2.2] at g2
    exact ⟨(p, q, ks), u, by simpa using g0, by simpa using g1, by simpa using g2, hk⟩
theorem inMails_of {H : Type} {enc : TypeId × Value → H} {W : World} {fuel : Nat} {v : Value} {x : DataW H × List MemPlace}
    (h : DataW.trod enc Try.prog W 0 (fun _ => true) true fuel 55 [v] = some x) : ∃ ls, InMails v ls W := by
  rcases open_slice Try.underlying55 h with ⟨hcs, _⟩ | ⟨a, len, cap, m, n, D, Pl, hcs, _, hl, hm, hmm, _, hel⟩
  · simp at hcs
    exact ⟨[], .inl ⟨_, _, hcs, rfl⟩⟩
  · simp at hcs
    subst hcs
    simp only [if_true] at hmm
    refine erd_of (m := m) (by omega) (by omega) fun i hi => ?_
    obtain ⟨cs', h1, h2⟩ := hel i hi
    obtain ⟨p, q, u, ks, rfl, hk⟩ := mail_cells h2
    rw [cells_lmail] at h1
    obtain ⟨_, _, h3⟩ := World.cells?_some h1
    have g0 := h3 0 (by omega)
    have g1 := h3 1 (by omega)
    have g2 := h3 2 (by omega)
    rw [(add3 a i).1] at g0
    rw [(add3 a i).2.1] at g1
    rw [(add3 a i).2.2] at g2
    exact ⟨(p, q, ks), u, by simpa using g0, by simpa using g1, by simpa using g2, hk⟩

theorem cells_lworld : Try.prog.cellsOf 57 = 5 := by kernel_rfl
theorem cells_lserver : Try.prog.cellsOf 53 = 3 := by kernel_rfl
theorem cells_lints : Try.prog.cellsOf 24 = 1 := by kernel_rfl
theorem cells_lseats : Try.prog.cellsOf 51 = 1 := by kernel_rfl
theorem cells_lmems : Try.prog.cellsOf 54 = 1 := by kernel_rfl
theorem cells_lmails : Try.prog.cellsOf 55 = 1 := by kernel_rfl
theorem array5 {cs : Array Value} (h : cs.size = 5) : ∃ a b c d e, cs = #[a, b, c, d, e] := by
  obtain ⟨l⟩ := cs
  match l, h with
  | [a, b, c, d, e], _ => exact ⟨a, b, c, d, e, rfl⟩
set_option maxRecDepth 100000 in
theorem world_open {H : Type} {enc : TypeId × Value → H} {W : World} {base : Nat} {r : Reach} {v : Value} {d : DataW H} {p : List MemPlace}
    (hv : Value.okWide Try.prog W r base 57 v) (h : DataW.Trod enc Try.prog W 0 (fun _ => true) true 57 v d p) :
    ∃ (ep : Int) (x y m l : Value) (vs : List Int) (ss : List (Int × Int)) (ds : List MD) (ls : List LD), v = wlv ep x y m l ∧ InInts x vs W ∧ InSeats y ss W ∧ InMems m ds W ∧ InMails l ls W := by
  obtain ⟨cs, rfl, hsz⟩ := okWide_struct Try.underlying57 hv
  rw [cells_lworld] at hsz
  obtain ⟨c0, c1, c2, c3, c4, rfl⟩ := array5 hsz
  obtain ⟨fuel, hf⟩ := h
  obtain ⟨y0, y1, y2, n, _, _, h0, h1, h2⟩ := trod_struct3 Try.underlying57 hf
  have h0' : DataW.trod enc Try.prog W 0 (fun _ => true) true n 53 [c0, c1, c2] = some y0 := by
    rw [cells_lserver] at h0
    simpa [Value.cells] using h0
  have h1' : DataW.trod enc Try.prog W 0 (fun _ => true) true n 54 [c3] = some y1 := by
    rw [cells_lmems] at h1
    simpa [Value.cells] using h1
  have h2' : DataW.trod enc Try.prog W 0 (fun _ => true) true n 55 [c4] = some y2 := by
    rw [cells_lmails] at h2
    simpa [Value.cells] using h2
  obtain ⟨z0, z1, z2, k, _, _, g0, g1, g2⟩ := trod_struct3 Try.underlying53 h0'
  obtain ⟨ep, e0, _, _⟩ := DataW.trod_int Try.underlying2 g0
  rw [cells_i64] at e0
  simp at e0
  have g1' : DataW.trod enc Try.prog W 0 (fun _ => true) true k 24 [c1] = some z1 := by
    rw [cells_lints] at g1
    simpa using g1
  have g2' : DataW.trod enc Try.prog W 0 (fun _ => true) true k 51 [c2] = some z2 := by
    rw [cells_lseats] at g2
    simpa using g2
  obtain ⟨vs, hi⟩ := inInts_of g1'
  obtain ⟨ss, hs⟩ := inSeats_of g2'
  obtain ⟨ds, hd⟩ := inMems_of h1'
  obtain ⟨ls, hl⟩ := inMails_of h2'
  exact ⟨ep, c1, c2, c3, c4, vs, ss, ds, ls, by rw [e0], hi, hs, hd, hl⟩
end Go.Proofs.Ythfgiabkafdbdaa
