
/- membersOk and mailOk of the program. -/
import Derived.Test.YthfgiabkafdbdaaWlHas
import Derived.Test.YthfgiabkafdbdaaKit2
import Derived.Deep.CutRange
namespace Go.Proofs.Ythfgiabkafdbdaa
open Go.RowKit

theorem keysSinceW {B : Nat} {v : Value} {ks : List (Int × Int)} {W W' : World} (h : Keys B v ks W) (hb : Below W.heap.size W W') : Keys B v ks W' := h.below hb (fun k e => (h.lt k e).2)
set_option maxRecDepth 100000 in
set_option maxHeartbeats 2000000 in
theorem membersOk_any {B : Nat} {v : Value} {ds : List MD} {w : World} (ep : Int) (h : Mems B v ds w) :
    Calls Try.prog 60 #[v, .int .i64 ep] w fun e w' => e = .returned (.bool (memsB ep ds)) ∧ Below w.heap.size w w' := by
  obtain ⟨a, c, rfl, hm, hrow⟩ := h.len
  unfold maxLen at hm
  have HR := hidW hrow
  have HD := hidW (show memsB ep ds = memsTo ep ds ds.length from rfl)
  clear h hrow
  generalize hn : ds.length = n at *
  go_enter Try.func60, Try.ntmps60
  go_wp2
  go_loopw [9] (fun i wr => ∃ k : Nat, i = .int .i64 (k : Int) ∧ k ≤ n ∧ memsTo ep ds k = true ∧ Below w.heap.size w wr) (fun i _ => n - (intOf i).toNat)
  case atStart => exact ⟨0, rfl, Nat.zero_le _, rfl, Below.refl _ _⟩
  case round =>
    obtain ⟨k, rfl, hk, hpre, hB⟩ := hrel
    have HP := hidW hpre
    clear hpre
    by_cases hlt : k < n
    · have hlk : k < ds.length := by omega
      obtain ⟨b, off, ha, hb, hseg⟩ : ∃ b off, a = some ⟨b, off, none⟩ ∧ b < w.heap.size ∧ ESeg (fun u l W => Keys B u l W) b off ds w := by
        rcases HR.out with e | e
        · rw [e] at hlk; simp at hlk
        · exact e
      subst ha
      obtain ⟨u, a0, a2, a3, a4⟩ := hseg k hlk
      obtain ⟨a1, e1, rfl, _, _⟩ := a4.row
      have HK := hidW a4
      have c0 := cell_since a0 hB
      have c1 := cell_since a2 hB
      have c2 := cell_since a3 hB
      have HM := hidW (show memAt ep ds k = (memberB ds[k].1 ds[k].2.1 ds[k].2.2 && (decide (ds[k].2.1 ≤ ep) && (decide (k = 0) || decide ((mAt ds (k - 1)).1 < ds[k].1)))) by unfold memAt; rw [mAt_get ds k hlk])
      have HS := hidW (memsTo_succ ep ds k)
      have HF := hidW (fun e => memsTo_false (ep := ep) (ds := ds) (m := k) (n := n) e hlt)
      have hprev : 0 < k → w.cell? ⟨b, off + (k - 1) * 3, none⟩ = some (.int .i64 (mAt ds (k - 1)).1) := fun h0 => by
        obtain ⟨_, q, _⟩ := hseg (k - 1) (by omega)
        rw [mAt_get ds (k - 1) (by omega)]
        exact q
      clear hseg a0 a2 a3 a4
      generalize (mAt ds (k - 1)).1 = y1 at *
      generalize ds[k].2.2 = l3 at *
      generalize ds[k].1 = x1 at *
      generalize ds[k].2.1 = x2 at *
      have HPv := hidW (fun h0 => cell_since (hprev h0) hB)
      clear hprev
      have hBc := one_below wr (mb x1 x2 (.slice a1 l3.length e1))
      cases hok : memberB x1 x2 l3 with
      | false =>
        go_upto_region 4 with fail
        clear c0 c1 c2
        obtain ⟨c0, c1, c2⟩ := cell3 wr x1 x2 (.slice a1 l3.length e1)
        have hS0 : (Kit w [(⟨wr.heap.size, 0, none⟩, (.int .i64 x1)), (⟨wr.heap.size, 1, none⟩, (.int .i64 x2)), (⟨wr.heap.size, 2, none⟩, (.slice a1 l3.length e1))] []) (wr.alloc (mb x1 x2 (.slice a1 l3.length e1))).drew := Kit.start ((hB.alloc hB.size _).drew) (fun p hp => by
            simp only [List.mem_cons, List.not_mem_nil, or_false] at hp
            rcases hp with rfl | rfl | rfl
            · exact c0
            · exact c1
            · exact c2)
        have hSN := SW.some hS0
        have hS1 := fun s : SW (Kit w [(⟨wr.heap.size, 0, none⟩, (.int .i64 x1)), (⟨wr.heap.size, 1, none⟩, (.int .i64 x2)), (⟨wr.heap.size, 2, none⟩, (.slice a1 l3.length e1))] []) => s.is.c0
        have hS2 := fun s : SW (Kit w [(⟨wr.heap.size, 0, none⟩, (.int .i64 x1)), (⟨wr.heap.size, 1, none⟩, (.int .i64 x2)), (⟨wr.heap.size, 2, none⟩, (.slice a1 l3.length e1))] []) => s.is.c1
        have hS3 := fun s : SW (Kit w [(⟨wr.heap.size, 0, none⟩, (.int .i64 x1)), (⟨wr.heap.size, 1, none⟩, (.int .i64 x2)), (⟨wr.heap.size, 2, none⟩, (.slice a1 l3.length e1))] []) => s.is.c2
        refine wp_region_S (Kit w [(⟨wr.heap.size, 0, none⟩, (.int .i64 x1)), (⟨wr.heap.size, 1, none⟩, (.int .i64 x2)), (⟨wr.heap.size, 2, none⟩, (.slice a1 l3.length e1))] []) (by kernel_rfl) (by kernel_rfl) hS0 ?_
        repeat (go_big_quiet_step ((rename_i s0; (go_at_call 79; refine (memberOk_any x1 x2 (keysSinceW HK.out s0.is.bel)).mono ?_; rintro e w' ⟨rfl, hb⟩; rw [hok]; exact ⟨rfl, SW.of (s0.is.since hb)⟩))))
        refine wpQuiet_nil ?_
        rintro _ ⟨s, rfl⟩
        have hBf := s.is.bel
        clear hS0 hSN hS1 hS2 hS3 c0 c1 c2
        have HN := hidW (show memsB ep ds = false by rw [HD.out]; exact HF.out (by rw [HM.out, hok]; rfl))
        go_wp2
        go_ret
        exact ⟨by show Ending.returned (.bool false) = _; rw [HN.out], hBf⟩
      | true =>
        by_cases he : x2 ≤ ep
        · have hd : decide (x2 ≤ ep) = true := decide_eq_true he
          have hg : decide (ep < x2) = false := decide_eq_false (by omega)
          by_cases hk0 : k = 0
          · subst hk0
            simp only [Nat.zero_mul, Nat.add_zero] at c0 c1 c2
            go_upto_region 4 with fail
            clear c0 c1 c2
            obtain ⟨c0, c1, c2⟩ := cell3 wr x1 x2 (.slice a1 l3.length e1)
            have hS0 : (Kit w [(⟨wr.heap.size, 0, none⟩, (.int .i64 x1)), (⟨wr.heap.size, 1, none⟩, (.int .i64 x2)), (⟨wr.heap.size, 2, none⟩, (.slice a1 l3.length e1))] []) (wr.alloc (mb x1 x2 (.slice a1 l3.length e1))).drew := Kit.start ((hB.alloc hB.size _).drew) (fun p hp => by
                simp only [List.mem_cons, List.not_mem_nil, or_false] at hp
                rcases hp with rfl | rfl | rfl
                · exact c0
                · exact c1
                · exact c2)
            have hSN := SW.some hS0
            have hS1 := fun s : SW (Kit w [(⟨wr.heap.size, 0, none⟩, (.int .i64 x1)), (⟨wr.heap.size, 1, none⟩, (.int .i64 x2)), (⟨wr.heap.size, 2, none⟩, (.slice a1 l3.length e1))] []) => s.is.c0
            have hS2 := fun s : SW (Kit w [(⟨wr.heap.size, 0, none⟩, (.int .i64 x1)), (⟨wr.heap.size, 1, none⟩, (.int .i64 x2)), (⟨wr.heap.size, 2, none⟩, (.slice a1 l3.length e1))] []) => s.is.c1
            have hS3 := fun s : SW (Kit w [(⟨wr.heap.size, 0, none⟩, (.int .i64 x1)), (⟨wr.heap.size, 1, none⟩, (.int .i64 x2)), (⟨wr.heap.size, 2, none⟩, (.slice a1 l3.length e1))] []) => s.is.c2
            refine wp_region_S (Kit w [(⟨wr.heap.size, 0, none⟩, (.int .i64 x1)), (⟨wr.heap.size, 1, none⟩, (.int .i64 x2)), (⟨wr.heap.size, 2, none⟩, (.slice a1 l3.length e1))] []) (by kernel_rfl) (by kernel_rfl) hS0 ?_
            repeat (go_big_quiet_step ((rename_i s0; (go_at_call 79; refine (memberOk_any x1 x2 (keysSinceW HK.out s0.is.bel)).mono ?_; rintro e w' ⟨rfl, hb⟩; rw [hok]; exact ⟨rfl, SW.of (s0.is.since hb)⟩))))
            refine wpQuiet_nil ?_
            rintro _ ⟨s, rfl⟩
            have hBf := s.is.bel
            clear hS0 hSN hS1 hS2 hS3 c0 c1 c2
            have HN := hidW (show memsTo ep ds (0 + 1) = true by rw [HS.out, HP.out, HM.out, hok, hd]; rfl)
            go_wp2
            go_roundw
            case rel => exact ⟨0 + 1, by go_num, by omega, HN.out, hBf⟩
            case measure => simp [intOf]; omega
          · have hkp : 0 < k := by omega
            by_cases hlt2 : y1 < x1
            · have hd2 : decide (y1 < x1) = true := decide_eq_true hlt2
              go_upto_region 4 with fail
              clear c0 c1 c2
              obtain ⟨c0, c1, c2⟩ := cell3 wr x1 x2 (.slice a1 l3.length e1)
              have c3 := cell_since (HPv.out hkp) hBc
              have hS0 : (Kit w [(⟨wr.heap.size, 0, none⟩, (.int .i64 x1)), (⟨wr.heap.size, 1, none⟩, (.int .i64 x2)), (⟨wr.heap.size, 2, none⟩, (.slice a1 l3.length e1)), (⟨b, off + (k - 1) * 3, none⟩, (.int .i64 y1))] []) (wr.alloc (mb x1 x2 (.slice a1 l3.length e1))).drew := Kit.start ((hB.alloc hB.size _).drew) (fun p hp => by
                  simp only [List.mem_cons, List.not_mem_nil, or_false] at hp
                  rcases hp with rfl | rfl | rfl | rfl
                  · exact c0
                  · exact c1
                  · exact c2
                  · exact c3)
              have hSN := SW.some hS0
              have hS1 := fun s : SW (Kit w [(⟨wr.heap.size, 0, none⟩, (.int .i64 x1)), (⟨wr.heap.size, 1, none⟩, (.int .i64 x2)), (⟨wr.heap.size, 2, none⟩, (.slice a1 l3.length e1)), (⟨b, off + (k - 1) * 3, none⟩, (.int .i64 y1))] []) => s.is.c0
              have hS2 := fun s : SW (Kit w [(⟨wr.heap.size, 0, none⟩, (.int .i64 x1)), (⟨wr.heap.size, 1, none⟩, (.int .i64 x2)), (⟨wr.heap.size, 2, none⟩, (.slice a1 l3.length e1)), (⟨b, off + (k - 1) * 3, none⟩, (.int .i64 y1))] []) => s.is.c1
              have hS3 := fun s : SW (Kit w [(⟨wr.heap.size, 0, none⟩, (.int .i64 x1)), (⟨wr.heap.size, 1, none⟩, (.int .i64 x2)), (⟨wr.heap.size, 2, none⟩, (.slice a1 l3.length e1)), (⟨b, off + (k - 1) * 3, none⟩, (.int .i64 y1))] []) => s.is.c2
              have hS4 := fun s : SW (Kit w [(⟨wr.heap.size, 0, none⟩, (.int .i64 x1)), (⟨wr.heap.size, 1, none⟩, (.int .i64 x2)), (⟨wr.heap.size, 2, none⟩, (.slice a1 l3.length e1)), (⟨b, off + (k - 1) * 3, none⟩, (.int .i64 y1))] []) => s.is.c3
              refine wp_region_S (Kit w [(⟨wr.heap.size, 0, none⟩, (.int .i64 x1)), (⟨wr.heap.size, 1, none⟩, (.int .i64 x2)), (⟨wr.heap.size, 2, none⟩, (.slice a1 l3.length e1)), (⟨b, off + (k - 1) * 3, none⟩, (.int .i64 y1))] []) (by kernel_rfl) (by kernel_rfl) hS0 ?_
              repeat (go_big_quiet_step ((rename_i s0; (go_at_call 79; refine (memberOk_any x1 x2 (keysSinceW HK.out s0.is.bel)).mono ?_; rintro e w' ⟨rfl, hb⟩; rw [hok]; exact ⟨rfl, SW.of (s0.is.since hb)⟩))))
              refine wpQuiet_nil ?_
              rintro _ ⟨s, rfl⟩
              have hBf := s.is.bel
              clear hS0 hSN hS1 hS2 hS3 hS4 c0 c1 c2 c3
              have HN := hidW (show memsTo ep ds (k + 1) = true by rw [HS.out, HP.out, HM.out, hok, hd, hd2]; simp)
              go_wp2
              go_roundw
              case rel => exact ⟨k + 1, by go_num, by omega, HN.out, hBf⟩
              case measure => simp [intOf]; omega
            · have hd2 : decide (y1 < x1) = false := decide_eq_false hlt2
              go_upto_region 4 with fail
              clear c0 c1 c2
              obtain ⟨c0, c1, c2⟩ := cell3 wr x1 x2 (.slice a1 l3.length e1)
              have c3 := cell_since (HPv.out hkp) hBc
              have hS0 : (Kit w [(⟨wr.heap.size, 0, none⟩, (.int .i64 x1)), (⟨wr.heap.size, 1, none⟩, (.int .i64 x2)), (⟨wr.heap.size, 2, none⟩, (.slice a1 l3.length e1)), (⟨b, off + (k - 1) * 3, none⟩, (.int .i64 y1))] []) (wr.alloc (mb x1 x2 (.slice a1 l3.length e1))).drew := Kit.start ((hB.alloc hB.size _).drew) (fun p hp => by
                  simp only [List.mem_cons, List.not_mem_nil, or_false] at hp
                  rcases hp with rfl | rfl | rfl | rfl
                  · exact c0
                  · exact c1
                  · exact c2
                  · exact c3)
              have hSN := SW.some hS0
              have hS1 := fun s : SW (Kit w [(⟨wr.heap.size, 0, none⟩, (.int .i64 x1)), (⟨wr.heap.size, 1, none⟩, (.int .i64 x2)), (⟨wr.heap.size, 2, none⟩, (.slice a1 l3.length e1)), (⟨b, off + (k - 1) * 3, none⟩, (.int .i64 y1))] []) => s.is.c0
              have hS2 := fun s : SW (Kit w [(⟨wr.heap.size, 0, none⟩, (.int .i64 x1)), (⟨wr.heap.size, 1, none⟩, (.int .i64 x2)), (⟨wr.heap.size, 2, none⟩, (.slice a1 l3.length e1)), (⟨b, off + (k - 1) * 3, none⟩, (.int .i64 y1))] []) => s.is.c1
              have hS3 := fun s : SW (Kit w [(⟨wr.heap.size, 0, none⟩, (.int .i64 x1)), (⟨wr.heap.size, 1, none⟩, (.int .i64 x2)), (⟨wr.heap.size, 2, none⟩, (.slice a1 l3.length e1)), (⟨b, off + (k - 1) * 3, none⟩, (.int .i64 y1))] []) => s.is.c2
              have hS4 := fun s : SW (Kit w [(⟨wr.heap.size, 0, none⟩, (.int .i64 x1)), (⟨wr.heap.size, 1, none⟩, (.int .i64 x2)), (⟨wr.heap.size, 2, none⟩, (.slice a1 l3.length e1)), (⟨b, off + (k - 1) * 3, none⟩, (.int .i64 y1))] []) => s.is.c3
              refine wp_region_S (Kit w [(⟨wr.heap.size, 0, none⟩, (.int .i64 x1)), (⟨wr.heap.size, 1, none⟩, (.int .i64 x2)), (⟨wr.heap.size, 2, none⟩, (.slice a1 l3.length e1)), (⟨b, off + (k - 1) * 3, none⟩, (.int .i64 y1))] []) (by kernel_rfl) (by kernel_rfl) hS0 ?_
              repeat (go_big_quiet_step ((rename_i s0; (go_at_call 79; refine (memberOk_any x1 x2 (keysSinceW HK.out s0.is.bel)).mono ?_; rintro e w' ⟨rfl, hb⟩; rw [hok]; exact ⟨rfl, SW.of (s0.is.since hb)⟩))))
              refine wpQuiet_nil ?_
              rintro _ ⟨s, rfl⟩
              have hBf := s.is.bel
              clear hS0 hSN hS1 hS2 hS3 hS4 c0 c1 c2 c3
              have HN := hidW (show memsB ep ds = false by rw [HD.out]; exact HF.out (by rw [HM.out, hok, hd, hd2]; simp [hk0]))
              go_wp2
              go_ret
              exact ⟨by show Ending.returned (.bool false) = _; rw [HN.out], hBf⟩
        · have hd : decide (x2 ≤ ep) = false := decide_eq_false he
          have hg : decide (ep < x2) = true := decide_eq_true (by omega)
          go_upto_region 4 with fail
          clear c0 c1 c2
          obtain ⟨c0, c1, c2⟩ := cell3 wr x1 x2 (.slice a1 l3.length e1)
          have hS0 : (Kit w [(⟨wr.heap.size, 0, none⟩, (.int .i64 x1)), (⟨wr.heap.size, 1, none⟩, (.int .i64 x2)), (⟨wr.heap.size, 2, none⟩, (.slice a1 l3.length e1))] []) (wr.alloc (mb x1 x2 (.slice a1 l3.length e1))).drew := Kit.start ((hB.alloc hB.size _).drew) (fun p hp => by
              simp only [List.mem_cons, List.not_mem_nil, or_false] at hp
              rcases hp with rfl | rfl | rfl
              · exact c0
              · exact c1
              · exact c2)
          have hSN := SW.some hS0
          have hS1 := fun s : SW (Kit w [(⟨wr.heap.size, 0, none⟩, (.int .i64 x1)), (⟨wr.heap.size, 1, none⟩, (.int .i64 x2)), (⟨wr.heap.size, 2, none⟩, (.slice a1 l3.length e1))] []) => s.is.c0
          have hS2 := fun s : SW (Kit w [(⟨wr.heap.size, 0, none⟩, (.int .i64 x1)), (⟨wr.heap.size, 1, none⟩, (.int .i64 x2)), (⟨wr.heap.size, 2, none⟩, (.slice a1 l3.length e1))] []) => s.is.c1
          have hS3 := fun s : SW (Kit w [(⟨wr.heap.size, 0, none⟩, (.int .i64 x1)), (⟨wr.heap.size, 1, none⟩, (.int .i64 x2)), (⟨wr.heap.size, 2, none⟩, (.slice a1 l3.length e1))] []) => s.is.c2
          refine wp_region_S (Kit w [(⟨wr.heap.size, 0, none⟩, (.int .i64 x1)), (⟨wr.heap.size, 1, none⟩, (.int .i64 x2)), (⟨wr.heap.size, 2, none⟩, (.slice a1 l3.length e1))] []) (by kernel_rfl) (by kernel_rfl) hS0 ?_
          repeat (go_big_quiet_step ((rename_i s0; (go_at_call 79; refine (memberOk_any x1 x2 (keysSinceW HK.out s0.is.bel)).mono ?_; rintro e w' ⟨rfl, hb⟩; rw [hok]; exact ⟨rfl, SW.of (s0.is.since hb)⟩))))
          refine wpQuiet_nil ?_
          rintro _ ⟨s, rfl⟩
          have hBf := s.is.bel
          clear hS0 hSN hS1 hS2 hS3 c0 c1 c2
          have HN := hidW (show memsB ep ds = false by rw [HD.out]; exact HF.out (by rw [HM.out, hok, hd]; rfl))
          go_wp2
          go_ret
          exact ⟨by show Ending.returned (.bool false) = _; rw [HN.out], hBf⟩
    · obtain rfl : k = n := by omega
      have HN := hidW (show memsB ep ds = true by rw [HD.out]; exact HP.out)
      go_wp2
      go_ret
      exact ⟨by rw [HN.out]; rfl, hB⟩
end Go.Proofs.Ythfgiabkafdbdaa
