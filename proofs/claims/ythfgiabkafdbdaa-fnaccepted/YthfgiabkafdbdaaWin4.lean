
/- The bits of a window: bitsOf of the program. -/
import Derived.Test.YthfgiabkafdbdaaWin2
import Derived.BigRegion
import Derived.RegionTactic
import Derived.ChangeAlike
namespace Go.Proofs.Ythfgiabkafdbdaa.Wn
open Go.RowKit

abbrev bv (top : Int) (b : Nat) : Value := .agg #[.int .i64 top, .int .u32 (b : Int)]
abbrev bb (top : Int) (b : Nat) : Obj := .cells #[.int .i64 top, .int .u32 (b : Int)] 78

theorem pow_val {s : Nat} (hs : s < 32) : ((2 : Int) ^ s % 4294967296) = ((2 ^ s : Nat) : Int) := by
  have h := two_pow_lt hs
  have e : ((2 ^ s : Nat) : Int) = (2 : Int) ^ s := by simp
  rw [← e]
  generalize 2 ^ s = m at h ⊢
  omega
theorem or_val {b s : Nat} (hb : b < 4294967296) (hs : s < 32) : bits .or .u32 (b : Int) ((2 : Int) ^ s % 4294967296) = ((b ||| 2 ^ s : Nat) : Int) := by
  rw [pow_val hs]
  exact u32_or_nat b (2 ^ s) hb (two_pow_lt hs)

set_option maxHeartbeats 1000000 in
theorem bitsOf_any {B : Nat} {v : Value} {xs : List Int} {w : World} (top : Int) (h : Ints B v xs w) (hw : WinOk top xs) :
    Calls Try.prog 41 #[wv top v] w fun e w' => ∃ b : Nat, e = .returned (bv top b) ∧ HasBits b top xs ∧ Below w.heap.size w w' := by
  obtain ⟨a, c, hv, hm, hrow⟩ := h.row
  subst hv
  have HR : Hid (IRow a xs w) := hrow
  have HW : Hid (WinOk top xs) := hw
  have hn32 := hw.len
  have hr := hw.range
  clear hrow h hw hm
  generalize hn : xs.length = n at *
  have hB0 : Below w.heap.size w (((w.alloc (wb top (.slice a n c))).alloc (bb 0 0)).alloc (bb top 0)) := (two_below w _ _).alloc (by simp; omega) _
  have t0 : (((w.alloc (wb top (.slice a n c))).alloc (bb 0 0)).alloc (bb top 0)).heap[w.heap.size]? = some (wb top (.slice a n c)) := by
    rw [Below.heap_alloc _ _ _ (by simp; omega), Below.heap_alloc _ _ _ (by simp)]
    exact heap_alloc_new _ _
  have t1 : (((w.alloc (wb top (.slice a n c))).alloc (bb 0 0)).alloc (bb top 0)).heap[w.heap.size + 1]? = some (bb 0 0) := by
    rw [Below.heap_alloc _ _ _ (by simp)]
    have := heap_alloc_new (w.alloc (wb top (.slice a n c))) (bb 0 0)
    simpa using this
  have t2 : (((w.alloc (wb top (.slice a n c))).alloc (bb 0 0)).alloc (bb top 0)).heap[w.heap.size + 1 + 1]? = some (bb top 0) := by
    have := heap_alloc_new ((w.alloc (wb top (.slice a n c))).alloc (bb 0 0)) (bb top 0)
    simpa using this
  go_enter Try.func41, Try.ntmps41
  go_wp2
  generalize ((w.alloc (wb top (.slice a n c))).alloc (bb 0 0)).alloc (bb top 0) = w0 at hB0 t0 t1 t2 ⊢
  go_loopw [12] (fun i wr => ∃ k b : Nat, i = .int .i64 (k : Int) ∧ k ≤ n ∧ Hid (HasBits b top (xs.take k)) ∧ wr.heap[w.heap.size]? = some (wb top (.slice a n c)) ∧ wr.heap[w.heap.size + 1]? = some (bb 0 0) ∧ wr.heap[w.heap.size + 1 + 1]? = some (bb top b) ∧ Below w.heap.size w wr) (fun i _ => n - (intOf i).toNat)
  case atStart => exact ⟨0, 0, rfl, Nat.zero_le _, HasBits.none top, t0, t1, t2, hB0⟩
  case round =>
    obtain ⟨k, b, rfl, hkn, HB, r0, r1, r2, hB⟩ := hrel
    clear t0 t1 t2 hB0
    obtain ⟨⟨p0, p1⟩, f0, f1⟩ := box2 r0
    obtain ⟨⟨q0, q1⟩, g0, g1⟩ := box2 r2
    by_cases hlt : k < n
    · obtain ⟨g, ha, hg, hseg⟩ : ∃ g, a = some ⟨g, 0, none⟩ ∧ g < w.heap.size ∧ ISeg g 0 xs w := by
        rcases HR.out with e | e
        · rw [e] at hn; simp at hn; omega
        · exact e
      subst ha
      have a1 := hseg k (by omega)
      simp only [Nat.zero_add] at a1
      have e1 := (hB.cell (p := ⟨g, k, none⟩) hg).trans a1
      have hx := HW.out.all _ (List.getElem_mem (show k < xs.length by omega))
      clear hseg a1
      obtain ⟨s, hs⟩ : ∃ s : Nat, top - xs[k] = (s : Int) := ⟨(top - xs[k]).toNat, by omega⟩
      have hs32 : s < 32 := by omega
      have HN : Hid (HasBits (b ||| 2 ^ s) top (xs.take (k + 1))) := by
        have := HB.out.or (n := xs[k]) s hs32 (by omega)
        rwa [← List.take_succ_eq_append_getElem (by omega)] at this
      generalize xs[k] = x at *
      have A0 := hidOf (blk (grown_set wr (w.heap.size + 1 + 1) 1 (.int .u32 ((b ||| 2 ^ s : Nat) : Int))) r0 (by omega))
      have A1 := hidOf (blk (grown_set wr (w.heap.size + 1 + 1) 1 (.int .u32 ((b ||| 2 ^ s : Nat) : Int))) r1 (by omega))
      go_wp2
      go_region
      go_wp2
      go_roundw
      case rel =>
        rw [or_val HB.out.1 hs32]
        exact ⟨k + 1, b ||| 2 ^ s, by go_num, by omega, HN.out, A0.out, A1.out, box2_set1 r2 _, (below_set hB _ _ _ (by omega) hB.size).drew⟩
      case measure => simp [intOf]; omega
    · obtain rfl : k = n := by omega
      obtain ⟨⟨y0, y1⟩, j0, j1⟩ := box2 r1
      have HBf : Hid (HasBits b top xs) := by
        have := HB.out
        rwa [List.take_of_length_le (by omega)] at this
      have HF : Hid (((wr.setCell ⟨w.heap.size + 1, 0, none⟩ (.int .i64 top)).setCell ⟨w.heap.size + 1, 1, none⟩ (.int .u32 (b : Int))).heap[w.heap.size + 1]? = some (bb top b)) := box2_set1 (box2_set0 r1 _) _
      have HB' : Hid (Below w.heap.size w ((wr.setCell ⟨w.heap.size + 1, 0, none⟩ (.int .i64 top)).setCell ⟨w.heap.size + 1, 1, none⟩ (.int .u32 (b : Int)))) := (hB.setCell (by simp) _).setCell (by simp) _
      clear r0 r1 r2
      go_wp2
      have bF := HF.out
      have gB := HB'.out
      clear HF HB'
      generalize (wr.setCell ⟨w.heap.size + 1, 0, none⟩ (.int .i64 top)).setCell ⟨w.heap.size + 1, 1, none⟩ (.int .u32 (b : Int)) = WF at bF gB ⊢
      obtain ⟨⟨z0, z1⟩, _, _⟩ := box2 bF
      exact bodyPost_ret (v := bv top b) (by simp [results, Try.results41, go_sem, z0, z1]) rfl ⟨b, rfl, HBf.out, gB⟩
end Go.Proofs.Ythfgiabkafdbdaa.Wn
