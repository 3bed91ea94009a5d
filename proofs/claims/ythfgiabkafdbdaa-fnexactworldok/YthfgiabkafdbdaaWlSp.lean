
/- l7At and WorldOk of the model. -/
import Derived.Test.YthfgiabkafdbdaaWlIm
import Derived.Test.YthfgiabkafdbdaaWlTw
import Derived.Deep.CutRange
namespace Go.Proofs.Ythfgiabkafdbdaa
open Go.RowKit

set_option maxRecDepth 100000 in
set_option maxHeartbeats 1000000 in
theorem l7At_any {B : Nat} {x y m l : Value} {ds : List MD} {w : World} (ep id : Int) (h : Mems B m ds w) :
    Calls Try.prog 54 #[wlv ep x y m l, .int .i64 id] w fun e w' => e = .returned (.int .i64 (atN ds id)) ∧ Below w.heap.size w w' := by
  obtain ⟨a, c, rfl, hm, hrow⟩ := h.len
  unfold maxLen at hm
  have HR := hidW hrow
  clear h hrow
  generalize hn : ds.length = n at *
  have hB1 := one_below w (wlb ep x y (.slice a n c) l)
  obtain ⟨_, _, _, c3, _⟩ := wcell5 w ep x y (.slice a n c) l 66
  go_enter Try.func54, Try.ntmps54
  go_wp2
  go_loopw [5] (fun i wr => ∃ k : Nat, i = .int .i64 (k : Int) ∧ k ≤ n ∧ hasTo ds id k = false ∧ wr = w.alloc (wlb ep x y (.slice a n c) l)) (fun i _ => n - (intOf i).toNat)
  case atStart => exact ⟨0, rfl, Nat.zero_le _, by simp [hasTo], rfl⟩
  case round =>
    obtain ⟨k, rfl, hk, hno, rfl⟩ := hrel
    have HN := hidW hno
    clear hno
    by_cases hlt : k < n
    · have hlk : k < ds.length := by omega
      obtain ⟨b, off, ha, hb, hseg⟩ : ∃ b off, a = some ⟨b, off, none⟩ ∧ b < w.heap.size ∧ ESeg (fun u l W => Keys B u l W) b off ds w := by
        rcases HR.out with e | e
        · rw [e] at hlk; simp at hlk
        · exact e
      subst ha
      obtain ⟨u, c1, _, _, _⟩ := hseg k hlk
      have c1 := cell_since c1 hB1
      have HF := hidW (fun e => atN_found hlk HN.out e)
      have HS := hidW (hasTo_succ ds id k hlk)
      clear hseg
      generalize ds[k].1 = x1 at *
      by_cases hx : x1 = id
      · have hx' : (x1 == id) = true := by simpa using hx
        have HA := hidW (HF.out hx)
        subst hx
        clear HF HS
        go_wp2
        go_ret
        exact ⟨by rw [HA.out]; rfl, hB1⟩
      · have hx' : (x1 == id) = false := by simpa using hx
        have HA := hidW (show hasTo ds id (k + 1) = false by rw [HS.out, HN.out, decide_eq_false hx]; rfl)
        clear HF HS
        go_wp2
        go_roundw
        case rel => exact ⟨k + 1, by go_num, by omega, HA.out, trivial⟩
        case measure => simp [intOf]; omega
    · have HA := hidW (atN_none (ds := ds) (id := id) (by
        have : k = ds.length := by omega
        rw [← this]; exact HN.out))
      go_wp2
      go_ret
      exact ⟨by rw [HA.out]; rfl, hB1⟩
theorem at_has {ds : List MD} {id : Int} (h : hasB ds id = true) : ∃ z, Hid (atN ds id = z) ∧ ¬ z < 0 := ⟨_, rfl, by have := atN_neg ds id; rw [h] at this; simpa using this⟩
theorem at_no {ds : List MD} {id : Int} (h : hasB ds id = false) : ∃ z, Hid (atN ds id = z) ∧ z < 0 := ⟨_, rfl, by have := atN_neg ds id; rw [h] at this; simpa using this⟩

set_option maxRecDepth 100000 in
set_option maxHeartbeats 4000000 in
theorem specWorldOk_any {B : Nat} {x y m l : Value} {vs : List Int} {ss : List (Int × Int)} {ds : List MD} {ls : List LD} {w : World} (ep : Int) (h : WlIs B x y m l vs ss ds ls w) :
    Calls Try.prog 32 #[wlv ep x y m l] w fun e w' => e = .returned (.bool (worldB ep vs ss ds ls)) ∧ Below w.heap.size w w' := by
  obtain ⟨ax, cx, hvx, _, _⟩ := h.x.row
  obtain ⟨ay, cy, hvy, hmy, hrs⟩ := h.y.row
  obtain ⟨am, cm, hvm, hmm, hrm⟩ := h.m.len
  obtain ⟨al, cl, hvl, hml, hrl⟩ := h.l.len
  subst hvx hvy hvm hvl
  unfold maxLen at hmy hmm hml
  have HW := hidW (fun W' (hb : Below w.heap.size w W') => h.since hb)
  have HRs := hidW hrs
  have HRm := hidW hrm
  have HRl := hidW hrl
  clear hrs hrm hrl h
  have HM20 := hidW (fun h => worldB_many (ep := ep) (vs := vs) (ss := ss) (ds := ds) (ls := ls) h)
  have HM60 := hidW (fun h => worldB_mail (ep := ep) (vs := vs) (ss := ss) (ds := ds) (ls := ls) h)
  have HDm := hidW (show memsB ep ds = memsTo ep ds ds.length from rfl)
  have HDs := hidW (seatedTo_all ss ds)
  have HDl := hidW (postTo_all ep ds ls)
  generalize hns : ss.length = ns at *
  generalize hnd : ds.length = nd at *
  generalize hnl : ls.length = nl at *
  have hB1 := one_below w (wlb ep (.slice ax vs.length cx) (.slice ay ns cy) (.slice am nd cm) (.slice al nl cl))
  obtain ⟨c0, c1, c2, c3, c4⟩ := wcell5 w ep (.slice ax vs.length cx) (.slice ay ns cy) (.slice am nd cm) (.slice al nl cl) 66
  go_enter Try.func32, Try.ntmps32
  go_wp2_with fail
  generalize w.alloc (wlb ep (.slice ax vs.length cx) (.slice ay ns cy) (.slice am nd cm) (.slice al nl cl)) = w1 at *
  refine (specServerOk_any ep (HW.out _ hB1).x (HW.out _ hB1).y).mono ?_
  rintro e w2 ⟨rfl, b2⟩
  have hB2 := more hB1 b2
  have c0 := cell_since c0 b2
  have c1 := cell_since c1 b2
  have c2 := cell_since c2 b2
  have c3 := cell_since c3 b2
  have c4 := cell_since c4 b2
  clear hB1 b2
  cases h1 : serverB ep vs ss with
  | false =>
    have HN := hidW (show worldB ep vs ss ds ls = false by simp [worldB, h1])
    clear h1
    go_wp2
    go_ret
    exact ⟨by rw [HN.out]; rfl, hB2⟩
  | true =>
  by_cases h60 : 60 < nl
  · have h60' : (60 : Int) < (nl : Int) := by omega
    have HN := hidW (HM60.out h60)
    clear h1
    go_wp2
    go_ret
    exact ⟨by rw [HN.out]; rfl, hB2⟩
  have h60' : ¬ (60 : Int) < (nl : Int) := by omega
  by_cases h20 : 20 < nd
  · have h20' : (20 : Int) < (nd : Int) := by omega
    have HN := hidW (HM20.out h20)
    clear h1
    go_wp2
    go_ret
    exact ⟨by rw [HN.out]; rfl, hB2⟩
  have h20' : ¬ (20 : Int) < (nd : Int) := by omega
  have HD := hidW (show worldB ep vs ss ds ls = (memsB ep ds && (seatedB ss ds && postB ep ds ls)) by unfold worldB mailB; rw [h1, hnl, decide_eq_true (by omega)]; rfl)
  have C0 := hidW c0
  have C1 := hidW c1
  have C2 := hidW c2
  have C3 := hidW c3
  have C4 := hidW c4
  clear h1 HM20 HM60
  go_wp2
  go_loopw [3] (fun i wr => ∃ k : Nat, i = .int .i64 (k : Int) ∧ k ≤ nd ∧ memsTo ep ds k = true ∧ Below w2.heap.size w2 wr) (fun i _ => nd - (intOf i).toNat)
  case atStart => exact ⟨0, rfl, Nat.zero_le _, rfl, Below.refl _ _⟩
  case round =>
    obtain ⟨k, rfl, hk, hpre, hB⟩ := hrel
    have HP := hidW hpre
    clear hpre
    have hBr := more hB2 hB
    have c0 := cell_since C0.out hB
    have c1 := cell_since C3.out hB
    have c2 := cell_since C2.out hB
    by_cases hlt : k < nd
    · have hlk : k < ds.length := by omega
      obtain ⟨b, off, ha, hb, hseg⟩ : ∃ b off, am = some ⟨b, off, none⟩ ∧ b < w.heap.size ∧ ESeg (fun u l W => Keys B u l W) b off ds w := by
        rcases HRm.out with e | e
        · rw [e] at hlk; simp at hlk
        · exact e
      subst ha
      obtain ⟨u, a0, a2, a3, a4⟩ := hseg k hlk
      obtain ⟨a1, e1, rfl, _, _⟩ := a4.row
      have HK := hidW a4
      have c2 := cell_since a0 hBr
      have c3 := cell_since a2 hBr
      have c4 := cell_since a3 hBr
      have HM := hidW (show memAt ep ds k = (memberB ds[k].1 ds[k].2.1 ds[k].2.2 && (decide (ds[k].2.1 ≤ ep) && (decide (k = 0) || decide ((mAt ds (k - 1)).1 < ds[k].1)))) by unfold memAt; rw [mAt_get ds k hlk])
      have HS := hidW (memsTo_succ ep ds k)
      have HF := hidW (fun e => (show worldB ep vs ss ds ls = false by rw [HD.out, HDm.out, memsTo_false (ep := ep) (ds := ds) (m := k) (n := nd) e hlt]; rfl))
      have hprev : 0 < k → w.cell? ⟨b, off + (k - 1) * 3, none⟩ = some (.int .i64 (mAt ds (k - 1)).1) := fun h0 => by
        obtain ⟨_, q, _⟩ := hseg (k - 1) (by omega)
        rw [mAt_get ds (k - 1) (by omega)]
        exact q
      clear hseg a0 a2 a3 a4
      generalize (mAt ds (k - 1)).1 = y1 at *
      generalize ds[k].2.2 = l3 at *
      generalize ds[k].1 = x1 at *
      generalize ds[k].2.1 = x2 at *
      have HPv := hidW (fun h0 => cell_since (hprev h0) hBr)
      clear hprev
      cases hok : memberB x1 x2 l3 with
      | false =>
        go_upto_region 6 with fail
        have hS0 : (Kit w2 [(⟨w.heap.size, 0, none⟩, (.int .i64 ep)), (⟨w.heap.size, 3, none⟩, (.slice (some ⟨b, off, none⟩) nd cm)), (⟨b, off + k * 3, none⟩, (.int .i64 x1)), (⟨b, off + k * 3 + 1, none⟩, (.int .i64 x2)), (⟨b, off + k * 3 + 2, none⟩, (.slice a1 l3.length e1))] []) wr.drew := Kit.start (hB.drew) (fun p hp => by
            simp only [List.mem_cons, List.not_mem_nil, or_false] at hp
            rcases hp with rfl | rfl | rfl | rfl | rfl
            · exact c0
            · exact c1
            · exact c2
            · exact c3
            · exact c4)
        have hSN := SW.some hS0
        have hS1 := fun s : SW (Kit w2 [(⟨w.heap.size, 0, none⟩, (.int .i64 ep)), (⟨w.heap.size, 3, none⟩, (.slice (some ⟨b, off, none⟩) nd cm)), (⟨b, off + k * 3, none⟩, (.int .i64 x1)), (⟨b, off + k * 3 + 1, none⟩, (.int .i64 x2)), (⟨b, off + k * 3 + 2, none⟩, (.slice a1 l3.length e1))] []) => s.is.c0
        have hS2 := fun s : SW (Kit w2 [(⟨w.heap.size, 0, none⟩, (.int .i64 ep)), (⟨w.heap.size, 3, none⟩, (.slice (some ⟨b, off, none⟩) nd cm)), (⟨b, off + k * 3, none⟩, (.int .i64 x1)), (⟨b, off + k * 3 + 1, none⟩, (.int .i64 x2)), (⟨b, off + k * 3 + 2, none⟩, (.slice a1 l3.length e1))] []) => s.is.c1
        have hS3 := fun s : SW (Kit w2 [(⟨w.heap.size, 0, none⟩, (.int .i64 ep)), (⟨w.heap.size, 3, none⟩, (.slice (some ⟨b, off, none⟩) nd cm)), (⟨b, off + k * 3, none⟩, (.int .i64 x1)), (⟨b, off + k * 3 + 1, none⟩, (.int .i64 x2)), (⟨b, off + k * 3 + 2, none⟩, (.slice a1 l3.length e1))] []) => s.is.c2
        have hS4 := fun s : SW (Kit w2 [(⟨w.heap.size, 0, none⟩, (.int .i64 ep)), (⟨w.heap.size, 3, none⟩, (.slice (some ⟨b, off, none⟩) nd cm)), (⟨b, off + k * 3, none⟩, (.int .i64 x1)), (⟨b, off + k * 3 + 1, none⟩, (.int .i64 x2)), (⟨b, off + k * 3 + 2, none⟩, (.slice a1 l3.length e1))] []) => s.is.c3
        have hS5 := fun s : SW (Kit w2 [(⟨w.heap.size, 0, none⟩, (.int .i64 ep)), (⟨w.heap.size, 3, none⟩, (.slice (some ⟨b, off, none⟩) nd cm)), (⟨b, off + k * 3, none⟩, (.int .i64 x1)), (⟨b, off + k * 3 + 1, none⟩, (.int .i64 x2)), (⟨b, off + k * 3 + 2, none⟩, (.slice a1 l3.length e1))] []) => s.is.c4
        refine wp_region_S (Kit w2 [(⟨w.heap.size, 0, none⟩, (.int .i64 ep)), (⟨w.heap.size, 3, none⟩, (.slice (some ⟨b, off, none⟩) nd cm)), (⟨b, off + k * 3, none⟩, (.int .i64 x1)), (⟨b, off + k * 3 + 1, none⟩, (.int .i64 x2)), (⟨b, off + k * 3 + 2, none⟩, (.slice a1 l3.length e1))] []) (by kernel_rfl) (by kernel_rfl) hS0 ?_
        repeat (go_big_quiet_step ((rename_i s0; (go_at_call 53; refine (specMemberOk_any x1 x2 (keysSinceW HK.out (more hB2 s0.is.bel))).mono ?_; rintro e w' ⟨rfl, hb⟩; rw [hok]; exact ⟨rfl, SW.of (s0.is.since hb)⟩))))
        refine wpQuiet_nil ?_
        rintro _ ⟨s, rfl⟩
        have hBf := s.is.bel
        clear hS0 hSN hS1 hS2 hS3 hS4 hS5 c0 c1 c2 c3 c4
        have hBF := more hB2 hBf
        have HN := hidW (HF.out (by rw [HM.out, hok]; rfl))
        go_wp2
        go_ret
        exact ⟨by show Ending.returned (.bool false) = _; rw [HN.out], hBF⟩
      | true =>
        by_cases he : x2 ≤ ep
        · have hd : decide (x2 ≤ ep) = true := decide_eq_true he
          have hg : ¬ ep < x2 := by omega
          by_cases hk0 : k = 0
          · subst hk0
            simp only [Nat.zero_mul, Nat.add_zero] at c2 c3 c4
            go_upto_region 6 with fail
            have hS0 : (Kit w2 [(⟨w.heap.size, 0, none⟩, (.int .i64 ep)), (⟨w.heap.size, 3, none⟩, (.slice (some ⟨b, off, none⟩) nd cm)), (⟨b, off, none⟩, (.int .i64 x1)), (⟨b, off + 1, none⟩, (.int .i64 x2)), (⟨b, off + 2, none⟩, (.slice a1 l3.length e1))] []) wr.drew := Kit.start (hB.drew) (fun p hp => by
                simp only [List.mem_cons, List.not_mem_nil, or_false] at hp
                rcases hp with rfl | rfl | rfl | rfl | rfl
                · exact c0
                · exact c1
                · exact c2
                · exact c3
                · exact c4)
            have hSN := SW.some hS0
            have hS1 := fun s : SW (Kit w2 [(⟨w.heap.size, 0, none⟩, (.int .i64 ep)), (⟨w.heap.size, 3, none⟩, (.slice (some ⟨b, off, none⟩) nd cm)), (⟨b, off, none⟩, (.int .i64 x1)), (⟨b, off + 1, none⟩, (.int .i64 x2)), (⟨b, off + 2, none⟩, (.slice a1 l3.length e1))] []) => s.is.c0
            have hS2 := fun s : SW (Kit w2 [(⟨w.heap.size, 0, none⟩, (.int .i64 ep)), (⟨w.heap.size, 3, none⟩, (.slice (some ⟨b, off, none⟩) nd cm)), (⟨b, off, none⟩, (.int .i64 x1)), (⟨b, off + 1, none⟩, (.int .i64 x2)), (⟨b, off + 2, none⟩, (.slice a1 l3.length e1))] []) => s.is.c1
            have hS3 := fun s : SW (Kit w2 [(⟨w.heap.size, 0, none⟩, (.int .i64 ep)), (⟨w.heap.size, 3, none⟩, (.slice (some ⟨b, off, none⟩) nd cm)), (⟨b, off, none⟩, (.int .i64 x1)), (⟨b, off + 1, none⟩, (.int .i64 x2)), (⟨b, off + 2, none⟩, (.slice a1 l3.length e1))] []) => s.is.c2
            have hS4 := fun s : SW (Kit w2 [(⟨w.heap.size, 0, none⟩, (.int .i64 ep)), (⟨w.heap.size, 3, none⟩, (.slice (some ⟨b, off, none⟩) nd cm)), (⟨b, off, none⟩, (.int .i64 x1)), (⟨b, off + 1, none⟩, (.int .i64 x2)), (⟨b, off + 2, none⟩, (.slice a1 l3.length e1))] []) => s.is.c3
            have hS5 := fun s : SW (Kit w2 [(⟨w.heap.size, 0, none⟩, (.int .i64 ep)), (⟨w.heap.size, 3, none⟩, (.slice (some ⟨b, off, none⟩) nd cm)), (⟨b, off, none⟩, (.int .i64 x1)), (⟨b, off + 1, none⟩, (.int .i64 x2)), (⟨b, off + 2, none⟩, (.slice a1 l3.length e1))] []) => s.is.c4
            refine wp_region_S (Kit w2 [(⟨w.heap.size, 0, none⟩, (.int .i64 ep)), (⟨w.heap.size, 3, none⟩, (.slice (some ⟨b, off, none⟩) nd cm)), (⟨b, off, none⟩, (.int .i64 x1)), (⟨b, off + 1, none⟩, (.int .i64 x2)), (⟨b, off + 2, none⟩, (.slice a1 l3.length e1))] []) (by kernel_rfl) (by kernel_rfl) hS0 ?_
            repeat (go_big_quiet_step ((rename_i s0; (go_at_call 53; refine (specMemberOk_any x1 x2 (keysSinceW HK.out (more hB2 s0.is.bel))).mono ?_; rintro e w' ⟨rfl, hb⟩; rw [hok]; exact ⟨rfl, SW.of (s0.is.since hb)⟩))))
            refine wpQuiet_nil ?_
            rintro _ ⟨s, rfl⟩
            have hBf := s.is.bel
            clear hS0 hSN hS1 hS2 hS3 hS4 hS5 c0 c1 c2 c3 c4
            have hBF := more hB2 hBf
            have HN := hidW (show memsTo ep ds (0 + 1) = true by rw [HS.out, HP.out, HM.out, hok, hd]; rfl)
            go_wp2
            go_roundw
            case rel => exact ⟨0 + 1, by go_num, by omega, HN.out, hBf⟩
            case measure => simp [intOf]; omega
          · have hkp : 0 < k := by omega
            by_cases hlt2 : y1 < x1
            · have hd2 : decide (y1 < x1) = true := decide_eq_true hlt2
              have c5 := HPv.out hkp
              go_upto_region 6 with fail
              have hS0 : (Kit w2 [(⟨w.heap.size, 0, none⟩, (.int .i64 ep)), (⟨w.heap.size, 3, none⟩, (.slice (some ⟨b, off, none⟩) nd cm)), (⟨b, off + k * 3, none⟩, (.int .i64 x1)), (⟨b, off + k * 3 + 1, none⟩, (.int .i64 x2)), (⟨b, off + k * 3 + 2, none⟩, (.slice a1 l3.length e1)), (⟨b, off + (k - 1) * 3, none⟩, (.int .i64 y1))] []) wr.drew := Kit.start (hB.drew) (fun p hp => by
                  simp only [List.mem_cons, List.not_mem_nil, or_false] at hp
                  rcases hp with rfl | rfl | rfl | rfl | rfl | rfl
                  · exact c0
                  · exact c1
                  · exact c2
                  · exact c3
                  · exact c4
                  · exact c5)
              have hSN := SW.some hS0
              have hS1 := fun s : SW (Kit w2 [(⟨w.heap.size, 0, none⟩, (.int .i64 ep)), (⟨w.heap.size, 3, none⟩, (.slice (some ⟨b, off, none⟩) nd cm)), (⟨b, off + k * 3, none⟩, (.int .i64 x1)), (⟨b, off + k * 3 + 1, none⟩, (.int .i64 x2)), (⟨b, off + k * 3 + 2, none⟩, (.slice a1 l3.length e1)), (⟨b, off + (k - 1) * 3, none⟩, (.int .i64 y1))] []) => s.is.c0
              have hS2 := fun s : SW (Kit w2 [(⟨w.heap.size, 0, none⟩, (.int .i64 ep)), (⟨w.heap.size, 3, none⟩, (.slice (some ⟨b, off, none⟩) nd cm)), (⟨b, off + k * 3, none⟩, (.int .i64 x1)), (⟨b, off + k * 3 + 1, none⟩, (.int .i64 x2)), (⟨b, off + k * 3 + 2, none⟩, (.slice a1 l3.length e1)), (⟨b, off + (k - 1) * 3, none⟩, (.int .i64 y1))] []) => s.is.c1
              have hS3 := fun s : SW (Kit w2 [(⟨w.heap.size, 0, none⟩, (.int .i64 ep)), (⟨w.heap.size, 3, none⟩, (.slice (some ⟨b, off, none⟩) nd cm)), (⟨b, off + k * 3, none⟩, (.int .i64 x1)), (⟨b, off + k * 3 + 1, none⟩, (.int .i64 x2)), (⟨b, off + k * 3 + 2, none⟩, (.slice a1 l3.length e1)), (⟨b, off + (k - 1) * 3, none⟩, (.int .i64 y1))] []) => s.is.c2
              have hS4 := fun s : SW (Kit w2 [(⟨w.heap.size, 0, none⟩, (.int .i64 ep)), (⟨w.heap.size, 3, none⟩, (.slice (some ⟨b, off, none⟩) nd cm)), (⟨b, off + k * 3, none⟩, (.int .i64 x1)), (⟨b, off + k * 3 + 1, none⟩, (.int .i64 x2)), (⟨b, off + k * 3 + 2, none⟩, (.slice a1 l3.length e1)), (⟨b, off + (k - 1) * 3, none⟩, (.int .i64 y1))] []) => s.is.c3
              have hS5 := fun s : SW (Kit w2 [(⟨w.heap.size, 0, none⟩, (.int .i64 ep)), (⟨w.heap.size, 3, none⟩, (.slice (some ⟨b, off, none⟩) nd cm)), (⟨b, off + k * 3, none⟩, (.int .i64 x1)), (⟨b, off + k * 3 + 1, none⟩, (.int .i64 x2)), (⟨b, off + k * 3 + 2, none⟩, (.slice a1 l3.length e1)), (⟨b, off + (k - 1) * 3, none⟩, (.int .i64 y1))] []) => s.is.c4
              have hS6 := fun s : SW (Kit w2 [(⟨w.heap.size, 0, none⟩, (.int .i64 ep)), (⟨w.heap.size, 3, none⟩, (.slice (some ⟨b, off, none⟩) nd cm)), (⟨b, off + k * 3, none⟩, (.int .i64 x1)), (⟨b, off + k * 3 + 1, none⟩, (.int .i64 x2)), (⟨b, off + k * 3 + 2, none⟩, (.slice a1 l3.length e1)), (⟨b, off + (k - 1) * 3, none⟩, (.int .i64 y1))] []) => s.is.c5
              refine wp_region_S (Kit w2 [(⟨w.heap.size, 0, none⟩, (.int .i64 ep)), (⟨w.heap.size, 3, none⟩, (.slice (some ⟨b, off, none⟩) nd cm)), (⟨b, off + k * 3, none⟩, (.int .i64 x1)), (⟨b, off + k * 3 + 1, none⟩, (.int .i64 x2)), (⟨b, off + k * 3 + 2, none⟩, (.slice a1 l3.length e1)), (⟨b, off + (k - 1) * 3, none⟩, (.int .i64 y1))] []) (by kernel_rfl) (by kernel_rfl) hS0 ?_
              repeat (go_big_quiet_step ((rename_i s0; (go_at_call 53; refine (specMemberOk_any x1 x2 (keysSinceW HK.out (more hB2 s0.is.bel))).mono ?_; rintro e w' ⟨rfl, hb⟩; rw [hok]; exact ⟨rfl, SW.of (s0.is.since hb)⟩))))
              refine wpQuiet_nil ?_
              rintro _ ⟨s, rfl⟩
              have hBf := s.is.bel
              clear hS0 hSN hS1 hS2 hS3 hS4 hS5 hS6 c0 c1 c2 c3 c4 c5
              have hBF := more hB2 hBf
              have HN := hidW (show memsTo ep ds (k + 1) = true by rw [HS.out, HP.out, HM.out, hok, hd, hd2]; simp)
              go_wp2
              go_roundw
              case rel => exact ⟨k + 1, by go_num, by omega, HN.out, hBf⟩
              case measure => simp [intOf]; omega
            · have hd2 : decide (y1 < x1) = false := decide_eq_false hlt2
              have c5 := HPv.out hkp
              go_upto_region 6 with fail
              have hS0 : (Kit w2 [(⟨w.heap.size, 0, none⟩, (.int .i64 ep)), (⟨w.heap.size, 3, none⟩, (.slice (some ⟨b, off, none⟩) nd cm)), (⟨b, off + k * 3, none⟩, (.int .i64 x1)), (⟨b, off + k * 3 + 1, none⟩, (.int .i64 x2)), (⟨b, off + k * 3 + 2, none⟩, (.slice a1 l3.length e1)), (⟨b, off + (k - 1) * 3, none⟩, (.int .i64 y1))] []) wr.drew := Kit.start (hB.drew) (fun p hp => by
                  simp only [List.mem_cons, List.not_mem_nil, or_false] at hp
                  rcases hp with rfl | rfl | rfl | rfl | rfl | rfl
                  · exact c0
                  · exact c1
                  · exact c2
                  · exact c3
                  · exact c4
                  · exact c5)
              have hSN := SW.some hS0
              have hS1 := fun s : SW (Kit w2 [(⟨w.heap.size, 0, none⟩, (.int .i64 ep)), (⟨w.heap.size, 3, none⟩, (.slice (some ⟨b, off, none⟩) nd cm)), (⟨b, off + k * 3, none⟩, (.int .i64 x1)), (⟨b, off + k * 3 + 1, none⟩, (.int .i64 x2)), (⟨b, off + k * 3 + 2, none⟩, (.slice a1 l3.length e1)), (⟨b, off + (k - 1) * 3, none⟩, (.int .i64 y1))] []) => s.is.c0
              have hS2 := fun s : SW (Kit w2 [(⟨w.heap.size, 0, none⟩, (.int .i64 ep)), (⟨w.heap.size, 3, none⟩, (.slice (some ⟨b, off, none⟩) nd cm)), (⟨b, off + k * 3, none⟩, (.int .i64 x1)), (⟨b, off + k * 3 + 1, none⟩, (.int .i64 x2)), (⟨b, off + k * 3 + 2, none⟩, (.slice a1 l3.length e1)), (⟨b, off + (k - 1) * 3, none⟩, (.int .i64 y1))] []) => s.is.c1
              have hS3 := fun s : SW (Kit w2 [(⟨w.heap.size, 0, none⟩, (.int .i64 ep)), (⟨w.heap.size, 3, none⟩, (.slice (some ⟨b, off, none⟩) nd cm)), (⟨b, off + k * 3, none⟩, (.int .i64 x1)), (⟨b, off + k * 3 + 1, none⟩, (.int .i64 x2)), (⟨b, off + k * 3 + 2, none⟩, (.slice a1 l3.length e1)), (⟨b, off + (k - 1) * 3, none⟩, (.int .i64 y1))] []) => s.is.c2
              have hS4 := fun s : SW (Kit w2 [(⟨w.heap.size, 0, none⟩, (.int .i64 ep)), (⟨w.heap.size, 3, none⟩, (.slice (some ⟨b, off, none⟩) nd cm)), (⟨b, off + k * 3, none⟩, (.int .i64 x1)), (⟨b, off + k * 3 + 1, none⟩, (.int .i64 x2)), (⟨b, off + k * 3 + 2, none⟩, (.slice a1 l3.length e1)), (⟨b, off + (k - 1) * 3, none⟩, (.int .i64 y1))] []) => s.is.c3
              have hS5 := fun s : SW (Kit w2 [(⟨w.heap.size, 0, none⟩, (.int .i64 ep)), (⟨w.heap.size, 3, none⟩, (.slice (some ⟨b, off, none⟩) nd cm)), (⟨b, off + k * 3, none⟩, (.int .i64 x1)), (⟨b, off + k * 3 + 1, none⟩, (.int .i64 x2)), (⟨b, off + k * 3 + 2, none⟩, (.slice a1 l3.length e1)), (⟨b, off + (k - 1) * 3, none⟩, (.int .i64 y1))] []) => s.is.c4
              have hS6 := fun s : SW (Kit w2 [(⟨w.heap.size, 0, none⟩, (.int .i64 ep)), (⟨w.heap.size, 3, none⟩, (.slice (some ⟨b, off, none⟩) nd cm)), (⟨b, off + k * 3, none⟩, (.int .i64 x1)), (⟨b, off + k * 3 + 1, none⟩, (.int .i64 x2)), (⟨b, off + k * 3 + 2, none⟩, (.slice a1 l3.length e1)), (⟨b, off + (k - 1) * 3, none⟩, (.int .i64 y1))] []) => s.is.c5
              refine wp_region_S (Kit w2 [(⟨w.heap.size, 0, none⟩, (.int .i64 ep)), (⟨w.heap.size, 3, none⟩, (.slice (some ⟨b, off, none⟩) nd cm)), (⟨b, off + k * 3, none⟩, (.int .i64 x1)), (⟨b, off + k * 3 + 1, none⟩, (.int .i64 x2)), (⟨b, off + k * 3 + 2, none⟩, (.slice a1 l3.length e1)), (⟨b, off + (k - 1) * 3, none⟩, (.int .i64 y1))] []) (by kernel_rfl) (by kernel_rfl) hS0 ?_
              repeat (go_big_quiet_step ((rename_i s0; (go_at_call 53; refine (specMemberOk_any x1 x2 (keysSinceW HK.out (more hB2 s0.is.bel))).mono ?_; rintro e w' ⟨rfl, hb⟩; rw [hok]; exact ⟨rfl, SW.of (s0.is.since hb)⟩))))
              refine wpQuiet_nil ?_
              rintro _ ⟨s, rfl⟩
              have hBf := s.is.bel
              clear hS0 hSN hS1 hS2 hS3 hS4 hS5 hS6 c0 c1 c2 c3 c4 c5
              have hBF := more hB2 hBf
              have HN := hidW (HF.out (by rw [HM.out, hok, hd, hd2]; simp [hk0]))
              go_wp2
              go_ret
              exact ⟨by show Ending.returned (.bool false) = _; rw [HN.out], hBF⟩
        · have hd : decide (x2 ≤ ep) = false := decide_eq_false he
          have hg : ep < x2 := by omega
          go_upto_region 6 with fail
          have hS0 : (Kit w2 [(⟨w.heap.size, 0, none⟩, (.int .i64 ep)), (⟨w.heap.size, 3, none⟩, (.slice (some ⟨b, off, none⟩) nd cm)), (⟨b, off + k * 3, none⟩, (.int .i64 x1)), (⟨b, off + k * 3 + 1, none⟩, (.int .i64 x2)), (⟨b, off + k * 3 + 2, none⟩, (.slice a1 l3.length e1))] []) wr.drew := Kit.start (hB.drew) (fun p hp => by
              simp only [List.mem_cons, List.not_mem_nil, or_false] at hp
              rcases hp with rfl | rfl | rfl | rfl | rfl
              · exact c0
              · exact c1
              · exact c2
              · exact c3
              · exact c4)
          have hSN := SW.some hS0
          have hS1 := fun s : SW (Kit w2 [(⟨w.heap.size, 0, none⟩, (.int .i64 ep)), (⟨w.heap.size, 3, none⟩, (.slice (some ⟨b, off, none⟩) nd cm)), (⟨b, off + k * 3, none⟩, (.int .i64 x1)), (⟨b, off + k * 3 + 1, none⟩, (.int .i64 x2)), (⟨b, off + k * 3 + 2, none⟩, (.slice a1 l3.length e1))] []) => s.is.c0
          have hS2 := fun s : SW (Kit w2 [(⟨w.heap.size, 0, none⟩, (.int .i64 ep)), (⟨w.heap.size, 3, none⟩, (.slice (some ⟨b, off, none⟩) nd cm)), (⟨b, off + k * 3, none⟩, (.int .i64 x1)), (⟨b, off + k * 3 + 1, none⟩, (.int .i64 x2)), (⟨b, off + k * 3 + 2, none⟩, (.slice a1 l3.length e1))] []) => s.is.c1
          have hS3 := fun s : SW (Kit w2 [(⟨w.heap.size, 0, none⟩, (.int .i64 ep)), (⟨w.heap.size, 3, none⟩, (.slice (some ⟨b, off, none⟩) nd cm)), (⟨b, off + k * 3, none⟩, (.int .i64 x1)), (⟨b, off + k * 3 + 1, none⟩, (.int .i64 x2)), (⟨b, off + k * 3 + 2, none⟩, (.slice a1 l3.length e1))] []) => s.is.c2
          have hS4 := fun s : SW (Kit w2 [(⟨w.heap.size, 0, none⟩, (.int .i64 ep)), (⟨w.heap.size, 3, none⟩, (.slice (some ⟨b, off, none⟩) nd cm)), (⟨b, off + k * 3, none⟩, (.int .i64 x1)), (⟨b, off + k * 3 + 1, none⟩, (.int .i64 x2)), (⟨b, off + k * 3 + 2, none⟩, (.slice a1 l3.length e1))] []) => s.is.c3
          have hS5 := fun s : SW (Kit w2 [(⟨w.heap.size, 0, none⟩, (.int .i64 ep)), (⟨w.heap.size, 3, none⟩, (.slice (some ⟨b, off, none⟩) nd cm)), (⟨b, off + k * 3, none⟩, (.int .i64 x1)), (⟨b, off + k * 3 + 1, none⟩, (.int .i64 x2)), (⟨b, off + k * 3 + 2, none⟩, (.slice a1 l3.length e1))] []) => s.is.c4
          refine wp_region_S (Kit w2 [(⟨w.heap.size, 0, none⟩, (.int .i64 ep)), (⟨w.heap.size, 3, none⟩, (.slice (some ⟨b, off, none⟩) nd cm)), (⟨b, off + k * 3, none⟩, (.int .i64 x1)), (⟨b, off + k * 3 + 1, none⟩, (.int .i64 x2)), (⟨b, off + k * 3 + 2, none⟩, (.slice a1 l3.length e1))] []) (by kernel_rfl) (by kernel_rfl) hS0 ?_
          repeat (go_big_quiet_step ((rename_i s0; (go_at_call 53; refine (specMemberOk_any x1 x2 (keysSinceW HK.out (more hB2 s0.is.bel))).mono ?_; rintro e w' ⟨rfl, hb⟩; rw [hok]; exact ⟨rfl, SW.of (s0.is.since hb)⟩))))
          refine wpQuiet_nil ?_
          rintro _ ⟨s, rfl⟩
          have hBf := s.is.bel
          clear hS0 hSN hS1 hS2 hS3 hS4 hS5 c0 c1 c2 c3 c4
          have hBF := more hB2 hBf
          have HN := hidW (HF.out (by rw [HM.out, hok, hd]; rfl))
          go_wp2
          go_ret
          exact ⟨by show Ending.returned (.bool false) = _; rw [HN.out], hBF⟩
    · have HD2 := hidW (show worldB ep vs ss ds ls = (seatedB ss ds && postB ep ds ls) by
        have e : k = nd := by omega
        rw [HD.out, HDm.out, ← e, HP.out]; rfl)
      have E0 := hidW (cell_since C0.out hB)
      have E1 := hidW (cell_since C1.out hB)
      have E2 := hidW (cell_since C2.out hB)
      have E3 := hidW (cell_since C3.out hB)
      have E4 := hidW (cell_since C4.out hB)
      clear HP C0 C1 C2 C3 C4 HD
      generalize wr = w3 at *
      go_wp2
      go_loopw [4] (fun i wr => ∃ k : Nat, i = .int .i64 (k : Int) ∧ k ≤ ns ∧ seatedTo ss ds k = true ∧ Below w3.heap.size w3 wr) (fun i _ => ns - (intOf i).toNat)
      case atStart => exact ⟨0, rfl, Nat.zero_le _, by simp [seatedTo], Below.refl _ _⟩
      case round =>
        obtain ⟨k2, rfl, hk2, hpre, hB3⟩ := hrel
        have HP := hidW hpre
        clear hpre
        have hBr3 := more hBr hB3
        have c0 := cell_since E0.out hB3
        have c1 := cell_since E1.out hB3
        have c2 := cell_since E2.out hB3
        have c3 := cell_since E3.out hB3
        have c4 := cell_since E4.out hB3
        by_cases hlt2 : k2 < ns
        · have hlk : k2 < ss.length := by omega
          obtain ⟨g, ha, hg, hseg⟩ : ∃ g, ay = some ⟨g, 0, none⟩ ∧ g < w.heap.size ∧ KSeg g 0 ss w := by
            rcases HRs.out with e | e
            · rw [e] at hlk; simp at hlk
            · exact e
          subst ha
          obtain ⟨a0, _⟩ := hseg k2 hlk
          simp only [Nat.zero_add] at a0
          have c5 := cell_since a0 hBr3
          have HS := hidW (seatedTo_succ ss ds k2 hlk)
          have HF := hidW (fun e => (show worldB ep vs ss ds ls = false by rw [HD2.out, seatedB_false (ds := ds) hlk e]; rfl))
          clear hseg a0
          generalize ss[k2].1 = x1 at *
          cases hok : hasB ds x1 with
          | false =>
            obtain ⟨z, HZ, hz⟩ := at_no hok
            go_upto_region 11 with fail
            have hS0 : (Kit w3 [(⟨w.heap.size, 0, none⟩, (.int .i64 ep)), (⟨w.heap.size, 1, none⟩, (.slice ax vs.length cx)), (⟨w.heap.size, 2, none⟩, (.slice (some ⟨g, 0, none⟩) ns cy)), (⟨w.heap.size, 3, none⟩, (.slice am nd cm)), (⟨w.heap.size, 4, none⟩, (.slice al nl cl)), (⟨g, k2 * 2, none⟩, (.int .i64 x1))] []) wr.drew := Kit.start (hB3.drew) (fun p hp => by
                simp only [List.mem_cons, List.not_mem_nil, or_false] at hp
                rcases hp with rfl | rfl | rfl | rfl | rfl | rfl
                · exact c0
                · exact c1
                · exact c2
                · exact c3
                · exact c4
                · exact c5)
            have hSN := SW.some hS0
            have hS1 := fun s : SW (Kit w3 [(⟨w.heap.size, 0, none⟩, (.int .i64 ep)), (⟨w.heap.size, 1, none⟩, (.slice ax vs.length cx)), (⟨w.heap.size, 2, none⟩, (.slice (some ⟨g, 0, none⟩) ns cy)), (⟨w.heap.size, 3, none⟩, (.slice am nd cm)), (⟨w.heap.size, 4, none⟩, (.slice al nl cl)), (⟨g, k2 * 2, none⟩, (.int .i64 x1))] []) => s.is.c0
            have hS2 := fun s : SW (Kit w3 [(⟨w.heap.size, 0, none⟩, (.int .i64 ep)), (⟨w.heap.size, 1, none⟩, (.slice ax vs.length cx)), (⟨w.heap.size, 2, none⟩, (.slice (some ⟨g, 0, none⟩) ns cy)), (⟨w.heap.size, 3, none⟩, (.slice am nd cm)), (⟨w.heap.size, 4, none⟩, (.slice al nl cl)), (⟨g, k2 * 2, none⟩, (.int .i64 x1))] []) => s.is.c1
            have hS3 := fun s : SW (Kit w3 [(⟨w.heap.size, 0, none⟩, (.int .i64 ep)), (⟨w.heap.size, 1, none⟩, (.slice ax vs.length cx)), (⟨w.heap.size, 2, none⟩, (.slice (some ⟨g, 0, none⟩) ns cy)), (⟨w.heap.size, 3, none⟩, (.slice am nd cm)), (⟨w.heap.size, 4, none⟩, (.slice al nl cl)), (⟨g, k2 * 2, none⟩, (.int .i64 x1))] []) => s.is.c2
            have hS4 := fun s : SW (Kit w3 [(⟨w.heap.size, 0, none⟩, (.int .i64 ep)), (⟨w.heap.size, 1, none⟩, (.slice ax vs.length cx)), (⟨w.heap.size, 2, none⟩, (.slice (some ⟨g, 0, none⟩) ns cy)), (⟨w.heap.size, 3, none⟩, (.slice am nd cm)), (⟨w.heap.size, 4, none⟩, (.slice al nl cl)), (⟨g, k2 * 2, none⟩, (.int .i64 x1))] []) => s.is.c3
            have hS5 := fun s : SW (Kit w3 [(⟨w.heap.size, 0, none⟩, (.int .i64 ep)), (⟨w.heap.size, 1, none⟩, (.slice ax vs.length cx)), (⟨w.heap.size, 2, none⟩, (.slice (some ⟨g, 0, none⟩) ns cy)), (⟨w.heap.size, 3, none⟩, (.slice am nd cm)), (⟨w.heap.size, 4, none⟩, (.slice al nl cl)), (⟨g, k2 * 2, none⟩, (.int .i64 x1))] []) => s.is.c4
            have hS6 := fun s : SW (Kit w3 [(⟨w.heap.size, 0, none⟩, (.int .i64 ep)), (⟨w.heap.size, 1, none⟩, (.slice ax vs.length cx)), (⟨w.heap.size, 2, none⟩, (.slice (some ⟨g, 0, none⟩) ns cy)), (⟨w.heap.size, 3, none⟩, (.slice am nd cm)), (⟨w.heap.size, 4, none⟩, (.slice al nl cl)), (⟨g, k2 * 2, none⟩, (.int .i64 x1))] []) => s.is.c5
            refine wp_region_S (Kit w3 [(⟨w.heap.size, 0, none⟩, (.int .i64 ep)), (⟨w.heap.size, 1, none⟩, (.slice ax vs.length cx)), (⟨w.heap.size, 2, none⟩, (.slice (some ⟨g, 0, none⟩) ns cy)), (⟨w.heap.size, 3, none⟩, (.slice am nd cm)), (⟨w.heap.size, 4, none⟩, (.slice al nl cl)), (⟨g, k2 * 2, none⟩, (.int .i64 x1))] []) (by kernel_rfl) (by kernel_rfl) hS0 ?_
            repeat (go_big_quiet_step ((rename_i s0; (go_at_call 54; refine (l7At_any ep x1 (HW.out _ (more hBr s0.is.bel)).m).mono ?_; rintro e w' ⟨rfl, hb⟩; rw [HZ.out]; exact ⟨rfl, SW.of (s0.is.since hb)⟩))))
            refine wpQuiet_nil ?_
            rintro _ ⟨s, rfl⟩
            have hBf := s.is.bel
            clear hS0 hSN hS1 hS2 hS3 hS4 hS5 hS6 c0 c1 c2 c3 c4 c5
            have hBF := more hBr hBf
            have HN := hidW (HF.out hok)
            go_wp2
            go_ret
            exact ⟨by show Ending.returned (.bool false) = _; rw [HN.out], hBF⟩
          | true =>
            obtain ⟨z, HZ, hz⟩ := at_has hok
            go_upto_region 11 with fail
            have hS0 : (Kit w3 [(⟨w.heap.size, 0, none⟩, (.int .i64 ep)), (⟨w.heap.size, 1, none⟩, (.slice ax vs.length cx)), (⟨w.heap.size, 2, none⟩, (.slice (some ⟨g, 0, none⟩) ns cy)), (⟨w.heap.size, 3, none⟩, (.slice am nd cm)), (⟨w.heap.size, 4, none⟩, (.slice al nl cl)), (⟨g, k2 * 2, none⟩, (.int .i64 x1))] []) wr.drew := Kit.start (hB3.drew) (fun p hp => by
                simp only [List.mem_cons, List.not_mem_nil, or_false] at hp
                rcases hp with rfl | rfl | rfl | rfl | rfl | rfl
                · exact c0
                · exact c1
                · exact c2
                · exact c3
                · exact c4
                · exact c5)
            have hSN := SW.some hS0
            have hS1 := fun s : SW (Kit w3 [(⟨w.heap.size, 0, none⟩, (.int .i64 ep)), (⟨w.heap.size, 1, none⟩, (.slice ax vs.length cx)), (⟨w.heap.size, 2, none⟩, (.slice (some ⟨g, 0, none⟩) ns cy)), (⟨w.heap.size, 3, none⟩, (.slice am nd cm)), (⟨w.heap.size, 4, none⟩, (.slice al nl cl)), (⟨g, k2 * 2, none⟩, (.int .i64 x1))] []) => s.is.c0
            have hS2 := fun s : SW (Kit w3 [(⟨w.heap.size, 0, none⟩, (.int .i64 ep)), (⟨w.heap.size, 1, none⟩, (.slice ax vs.length cx)), (⟨w.heap.size, 2, none⟩, (.slice (some ⟨g, 0, none⟩) ns cy)), (⟨w.heap.size, 3, none⟩, (.slice am nd cm)), (⟨w.heap.size, 4, none⟩, (.slice al nl cl)), (⟨g, k2 * 2, none⟩, (.int .i64 x1))] []) => s.is.c1
            have hS3 := fun s : SW (Kit w3 [(⟨w.heap.size, 0, none⟩, (.int .i64 ep)), (⟨w.heap.size, 1, none⟩, (.slice ax vs.length cx)), (⟨w.heap.size, 2, none⟩, (.slice (some ⟨g, 0, none⟩) ns cy)), (⟨w.heap.size, 3, none⟩, (.slice am nd cm)), (⟨w.heap.size, 4, none⟩, (.slice al nl cl)), (⟨g, k2 * 2, none⟩, (.int .i64 x1))] []) => s.is.c2
            have hS4 := fun s : SW (Kit w3 [(⟨w.heap.size, 0, none⟩, (.int .i64 ep)), (⟨w.heap.size, 1, none⟩, (.slice ax vs.length cx)), (⟨w.heap.size, 2, none⟩, (.slice (some ⟨g, 0, none⟩) ns cy)), (⟨w.heap.size, 3, none⟩, (.slice am nd cm)), (⟨w.heap.size, 4, none⟩, (.slice al nl cl)), (⟨g, k2 * 2, none⟩, (.int .i64 x1))] []) => s.is.c3
            have hS5 := fun s : SW (Kit w3 [(⟨w.heap.size, 0, none⟩, (.int .i64 ep)), (⟨w.heap.size, 1, none⟩, (.slice ax vs.length cx)), (⟨w.heap.size, 2, none⟩, (.slice (some ⟨g, 0, none⟩) ns cy)), (⟨w.heap.size, 3, none⟩, (.slice am nd cm)), (⟨w.heap.size, 4, none⟩, (.slice al nl cl)), (⟨g, k2 * 2, none⟩, (.int .i64 x1))] []) => s.is.c4
            have hS6 := fun s : SW (Kit w3 [(⟨w.heap.size, 0, none⟩, (.int .i64 ep)), (⟨w.heap.size, 1, none⟩, (.slice ax vs.length cx)), (⟨w.heap.size, 2, none⟩, (.slice (some ⟨g, 0, none⟩) ns cy)), (⟨w.heap.size, 3, none⟩, (.slice am nd cm)), (⟨w.heap.size, 4, none⟩, (.slice al nl cl)), (⟨g, k2 * 2, none⟩, (.int .i64 x1))] []) => s.is.c5
            refine wp_region_S (Kit w3 [(⟨w.heap.size, 0, none⟩, (.int .i64 ep)), (⟨w.heap.size, 1, none⟩, (.slice ax vs.length cx)), (⟨w.heap.size, 2, none⟩, (.slice (some ⟨g, 0, none⟩) ns cy)), (⟨w.heap.size, 3, none⟩, (.slice am nd cm)), (⟨w.heap.size, 4, none⟩, (.slice al nl cl)), (⟨g, k2 * 2, none⟩, (.int .i64 x1))] []) (by kernel_rfl) (by kernel_rfl) hS0 ?_
            repeat (go_big_quiet_step ((rename_i s0; (go_at_call 54; refine (l7At_any ep x1 (HW.out _ (more hBr s0.is.bel)).m).mono ?_; rintro e w' ⟨rfl, hb⟩; rw [HZ.out]; exact ⟨rfl, SW.of (s0.is.since hb)⟩))))
            refine wpQuiet_nil ?_
            rintro _ ⟨s, rfl⟩
            have hBf := s.is.bel
            clear hS0 hSN hS1 hS2 hS3 hS4 hS5 hS6 c0 c1 c2 c3 c4 c5
            have hBF := more hBr hBf
            have HN := hidW (show seatedTo ss ds (k2 + 1) = true by rw [HS.out, HP.out, hok]; rfl)
            go_wp2
            go_roundw
            case rel => exact ⟨k2 + 1, by go_num, by omega, HN.out, hBf⟩
            case measure => simp [intOf]; omega
        · have HD3 := hidW (show worldB ep vs ss ds ls = postB ep ds ls by
            have e : k2 = ns := by omega
            rw [HD2.out, ← HDs.out, ← e, HP.out]; rfl)
          have F0 := hidW (cell_since E0.out hB3)
          have F1 := hidW (cell_since E1.out hB3)
          have F2 := hidW (cell_since E2.out hB3)
          have F3 := hidW (cell_since E3.out hB3)
          have F4 := hidW (cell_since E4.out hB3)
          clear HP E0 E1 E2 E3 E4 HD2 c0 c1 c3 c4
          generalize wr = w4 at *
          go_wp2
          go_loopw [5] (fun i wr => ∃ k : Nat, i = .int .i64 (k : Int) ∧ k ≤ nl ∧ postTo ep ds ls k = true ∧ Below w4.heap.size w4 wr) (fun i _ => nl - (intOf i).toNat)
          case atStart => exact ⟨0, rfl, Nat.zero_le _, by simp [postTo], Below.refl _ _⟩
          case round =>
            obtain ⟨k3, rfl, hk3, hpre, hB4⟩ := hrel
            have HP := hidW hpre
            clear hpre
            have hBr4 := more hBr3 hB4
            have c0 := cell_since F0.out hB4
            have c1 := cell_since F1.out hB4
            have c2 := cell_since F2.out hB4
            have c3 := cell_since F3.out hB4
            have c4 := cell_since F4.out hB4
            by_cases hlt3 : k3 < nl
            · have hlk : k3 < ls.length := by omega
              obtain ⟨b, off, ha, hb, hseg⟩ : ∃ b off, al = some ⟨b, off, none⟩ ∧ b < w.heap.size ∧ ESeg (fun u l W => Wraps B u l W) b off ls w := by
                rcases HRl.out with e | e
                · rw [e] at hlk; simp at hlk
                · exact e
              subst ha
              obtain ⟨u, a0, a2, a3, a4⟩ := hseg k3 hlk
              obtain ⟨a1, e1, rfl⟩ := wrapsRow a4
              have HK := hidW a4
              have c5 := cell_since a0 hBr4
              have c6 := cell_since a2 hBr4
              have c7 := cell_since a3 hBr4
              have HM := hidW (show postAt ep ds ls[k3] = (hasB ds ls[k3].1 && (rkB ls[k3].2.1 ls[k3].2.2 && decide (ls[k3].2.1 ≤ ep))) from rfl)
              have HS := hidW (postTo_succ ep ds ls k3 hlk)
              have HF := hidW (fun e => (show worldB ep vs ss ds ls = false by rw [HD3.out, postB_false (ep := ep) (ds := ds) hlk e]))
              clear hseg a0 a2 a3 a4
              generalize ls[k3].2.2 = l3 at *
              generalize ls[k3].1 = x1 at *
              generalize ls[k3].2.1 = x2 at *
              cases hok : hasB ds x1 with
              | false =>
                obtain ⟨z, HZ, hz⟩ := at_no hok
                go_upto_region 16 with fail
                have hS0 : (Kit w4 [(⟨w.heap.size, 0, none⟩, (.int .i64 ep)), (⟨w.heap.size, 1, none⟩, (.slice ax vs.length cx)), (⟨w.heap.size, 2, none⟩, (.slice ay ns cy)), (⟨w.heap.size, 3, none⟩, (.slice am nd cm)), (⟨w.heap.size, 4, none⟩, (.slice (some ⟨b, off, none⟩) nl cl)), (⟨b, off + k3 * 3, none⟩, (.int .i64 x1)), (⟨b, off + k3 * 3 + 1, none⟩, (.int .i64 x2)), (⟨b, off + k3 * 3 + 2, none⟩, (.slice a1 l3.length e1))] []) wr.drew := Kit.start (hB4.drew) (fun p hp => by
                    simp only [List.mem_cons, List.not_mem_nil, or_false] at hp
                    rcases hp with rfl | rfl | rfl | rfl | rfl | rfl | rfl | rfl
                    · exact c0
                    · exact c1
                    · exact c2
                    · exact c3
                    · exact c4
                    · exact c5
                    · exact c6
                    · exact c7)
                have hSN := SW.some hS0
                have hS1 := fun s : SW (Kit w4 [(⟨w.heap.size, 0, none⟩, (.int .i64 ep)), (⟨w.heap.size, 1, none⟩, (.slice ax vs.length cx)), (⟨w.heap.size, 2, none⟩, (.slice ay ns cy)), (⟨w.heap.size, 3, none⟩, (.slice am nd cm)), (⟨w.heap.size, 4, none⟩, (.slice (some ⟨b, off, none⟩) nl cl)), (⟨b, off + k3 * 3, none⟩, (.int .i64 x1)), (⟨b, off + k3 * 3 + 1, none⟩, (.int .i64 x2)), (⟨b, off + k3 * 3 + 2, none⟩, (.slice a1 l3.length e1))] []) => s.is.c0
                have hS2 := fun s : SW (Kit w4 [(⟨w.heap.size, 0, none⟩, (.int .i64 ep)), (⟨w.heap.size, 1, none⟩, (.slice ax vs.length cx)), (⟨w.heap.size, 2, none⟩, (.slice ay ns cy)), (⟨w.heap.size, 3, none⟩, (.slice am nd cm)), (⟨w.heap.size, 4, none⟩, (.slice (some ⟨b, off, none⟩) nl cl)), (⟨b, off + k3 * 3, none⟩, (.int .i64 x1)), (⟨b, off + k3 * 3 + 1, none⟩, (.int .i64 x2)), (⟨b, off + k3 * 3 + 2, none⟩, (.slice a1 l3.length e1))] []) => s.is.c1
                have hS3 := fun s : SW (Kit w4 [(⟨w.heap.size, 0, none⟩, (.int .i64 ep)), (⟨w.heap.size, 1, none⟩, (.slice ax vs.length cx)), (⟨w.heap.size, 2, none⟩, (.slice ay ns cy)), (⟨w.heap.size, 3, none⟩, (.slice am nd cm)), (⟨w.heap.size, 4, none⟩, (.slice (some ⟨b, off, none⟩) nl cl)), (⟨b, off + k3 * 3, none⟩, (.int .i64 x1)), (⟨b, off + k3 * 3 + 1, none⟩, (.int .i64 x2)), (⟨b, off + k3 * 3 + 2, none⟩, (.slice a1 l3.length e1))] []) => s.is.c2
                have hS4 := fun s : SW (Kit w4 [(⟨w.heap.size, 0, none⟩, (.int .i64 ep)), (⟨w.heap.size, 1, none⟩, (.slice ax vs.length cx)), (⟨w.heap.size, 2, none⟩, (.slice ay ns cy)), (⟨w.heap.size, 3, none⟩, (.slice am nd cm)), (⟨w.heap.size, 4, none⟩, (.slice (some ⟨b, off, none⟩) nl cl)), (⟨b, off + k3 * 3, none⟩, (.int .i64 x1)), (⟨b, off + k3 * 3 + 1, none⟩, (.int .i64 x2)), (⟨b, off + k3 * 3 + 2, none⟩, (.slice a1 l3.length e1))] []) => s.is.c3
                have hS5 := fun s : SW (Kit w4 [(⟨w.heap.size, 0, none⟩, (.int .i64 ep)), (⟨w.heap.size, 1, none⟩, (.slice ax vs.length cx)), (⟨w.heap.size, 2, none⟩, (.slice ay ns cy)), (⟨w.heap.size, 3, none⟩, (.slice am nd cm)), (⟨w.heap.size, 4, none⟩, (.slice (some ⟨b, off, none⟩) nl cl)), (⟨b, off + k3 * 3, none⟩, (.int .i64 x1)), (⟨b, off + k3 * 3 + 1, none⟩, (.int .i64 x2)), (⟨b, off + k3 * 3 + 2, none⟩, (.slice a1 l3.length e1))] []) => s.is.c4
                have hS6 := fun s : SW (Kit w4 [(⟨w.heap.size, 0, none⟩, (.int .i64 ep)), (⟨w.heap.size, 1, none⟩, (.slice ax vs.length cx)), (⟨w.heap.size, 2, none⟩, (.slice ay ns cy)), (⟨w.heap.size, 3, none⟩, (.slice am nd cm)), (⟨w.heap.size, 4, none⟩, (.slice (some ⟨b, off, none⟩) nl cl)), (⟨b, off + k3 * 3, none⟩, (.int .i64 x1)), (⟨b, off + k3 * 3 + 1, none⟩, (.int .i64 x2)), (⟨b, off + k3 * 3 + 2, none⟩, (.slice a1 l3.length e1))] []) => s.is.c5
                have hS7 := fun s : SW (Kit w4 [(⟨w.heap.size, 0, none⟩, (.int .i64 ep)), (⟨w.heap.size, 1, none⟩, (.slice ax vs.length cx)), (⟨w.heap.size, 2, none⟩, (.slice ay ns cy)), (⟨w.heap.size, 3, none⟩, (.slice am nd cm)), (⟨w.heap.size, 4, none⟩, (.slice (some ⟨b, off, none⟩) nl cl)), (⟨b, off + k3 * 3, none⟩, (.int .i64 x1)), (⟨b, off + k3 * 3 + 1, none⟩, (.int .i64 x2)), (⟨b, off + k3 * 3 + 2, none⟩, (.slice a1 l3.length e1))] []) => s.is.c6
                have hS8 := fun s : SW (Kit w4 [(⟨w.heap.size, 0, none⟩, (.int .i64 ep)), (⟨w.heap.size, 1, none⟩, (.slice ax vs.length cx)), (⟨w.heap.size, 2, none⟩, (.slice ay ns cy)), (⟨w.heap.size, 3, none⟩, (.slice am nd cm)), (⟨w.heap.size, 4, none⟩, (.slice (some ⟨b, off, none⟩) nl cl)), (⟨b, off + k3 * 3, none⟩, (.int .i64 x1)), (⟨b, off + k3 * 3 + 1, none⟩, (.int .i64 x2)), (⟨b, off + k3 * 3 + 2, none⟩, (.slice a1 l3.length e1))] []) => s.is.c7
                refine wp_region_S (Kit w4 [(⟨w.heap.size, 0, none⟩, (.int .i64 ep)), (⟨w.heap.size, 1, none⟩, (.slice ax vs.length cx)), (⟨w.heap.size, 2, none⟩, (.slice ay ns cy)), (⟨w.heap.size, 3, none⟩, (.slice am nd cm)), (⟨w.heap.size, 4, none⟩, (.slice (some ⟨b, off, none⟩) nl cl)), (⟨b, off + k3 * 3, none⟩, (.int .i64 x1)), (⟨b, off + k3 * 3 + 1, none⟩, (.int .i64 x2)), (⟨b, off + k3 * 3 + 2, none⟩, (.slice a1 l3.length e1))] []) (by kernel_rfl) (by kernel_rfl) hS0 ?_
                repeat (go_big_quiet_step ((rename_i s0; (go_at_call 54; refine (l7At_any ep x1 (HW.out _ (more hBr3 s0.is.bel)).m).mono ?_; rintro e w' ⟨rfl, hb⟩; rw [HZ.out]; exact ⟨rfl, SW.of (s0.is.since hb)⟩))))
                refine wpQuiet_nil ?_
                rintro _ ⟨s, rfl⟩
                have hBf := s.is.bel
                clear hS0 hSN hS1 hS2 hS3 hS4 hS5 hS6 hS7 hS8 c0 c1 c2 c3 c4 c5 c6 c7
                have hBF := more hBr3 hBf
                have HN := hidW (HF.out (by rw [HM.out, hok]; rfl))
                go_wp2
                go_ret
                exact ⟨by show Ending.returned (.bool false) = _; rw [HN.out], hBF⟩
              | true =>
                obtain ⟨z, HZ, hz⟩ := at_has hok
                cases hok2 : rkB x2 l3 with
                | false =>
                  go_upto_region 16 with fail
                  have hS0 : (Kit w4 [(⟨w.heap.size, 0, none⟩, (.int .i64 ep)), (⟨w.heap.size, 1, none⟩, (.slice ax vs.length cx)), (⟨w.heap.size, 2, none⟩, (.slice ay ns cy)), (⟨w.heap.size, 3, none⟩, (.slice am nd cm)), (⟨w.heap.size, 4, none⟩, (.slice (some ⟨b, off, none⟩) nl cl)), (⟨b, off + k3 * 3, none⟩, (.int .i64 x1)), (⟨b, off + k3 * 3 + 1, none⟩, (.int .i64 x2)), (⟨b, off + k3 * 3 + 2, none⟩, (.slice a1 l3.length e1))] []) wr.drew := Kit.start (hB4.drew) (fun p hp => by
                      simp only [List.mem_cons, List.not_mem_nil, or_false] at hp
                      rcases hp with rfl | rfl | rfl | rfl | rfl | rfl | rfl | rfl
                      · exact c0
                      · exact c1
                      · exact c2
                      · exact c3
                      · exact c4
                      · exact c5
                      · exact c6
                      · exact c7)
                  have hSN := SW.some hS0
                  have hS1 := fun s : SW (Kit w4 [(⟨w.heap.size, 0, none⟩, (.int .i64 ep)), (⟨w.heap.size, 1, none⟩, (.slice ax vs.length cx)), (⟨w.heap.size, 2, none⟩, (.slice ay ns cy)), (⟨w.heap.size, 3, none⟩, (.slice am nd cm)), (⟨w.heap.size, 4, none⟩, (.slice (some ⟨b, off, none⟩) nl cl)), (⟨b, off + k3 * 3, none⟩, (.int .i64 x1)), (⟨b, off + k3 * 3 + 1, none⟩, (.int .i64 x2)), (⟨b, off + k3 * 3 + 2, none⟩, (.slice a1 l3.length e1))] []) => s.is.c0
                  have hS2 := fun s : SW (Kit w4 [(⟨w.heap.size, 0, none⟩, (.int .i64 ep)), (⟨w.heap.size, 1, none⟩, (.slice ax vs.length cx)), (⟨w.heap.size, 2, none⟩, (.slice ay ns cy)), (⟨w.heap.size, 3, none⟩, (.slice am nd cm)), (⟨w.heap.size, 4, none⟩, (.slice (some ⟨b, off, none⟩) nl cl)), (⟨b, off + k3 * 3, none⟩, (.int .i64 x1)), (⟨b, off + k3 * 3 + 1, none⟩, (.int .i64 x2)), (⟨b, off + k3 * 3 + 2, none⟩, (.slice a1 l3.length e1))] []) => s.is.c1
                  have hS3 := fun s : SW (Kit w4 [(⟨w.heap.size, 0, none⟩, (.int .i64 ep)), (⟨w.heap.size, 1, none⟩, (.slice ax vs.length cx)), (⟨w.heap.size, 2, none⟩, (.slice ay ns cy)), (⟨w.heap.size, 3, none⟩, (.slice am nd cm)), (⟨w.heap.size, 4, none⟩, (.slice (some ⟨b, off, none⟩) nl cl)), (⟨b, off + k3 * 3, none⟩, (.int .i64 x1)), (⟨b, off + k3 * 3 + 1, none⟩, (.int .i64 x2)), (⟨b, off + k3 * 3 + 2, none⟩, (.slice a1 l3.length e1))] []) => s.is.c2
                  have hS4 := fun s : SW (Kit w4 [(⟨w.heap.size, 0, none⟩, (.int .i64 ep)), (⟨w.heap.size, 1, none⟩, (.slice ax vs.length cx)), (⟨w.heap.size, 2, none⟩, (.slice ay ns cy)), (⟨w.heap.size, 3, none⟩, (.slice am nd cm)), (⟨w.heap.size, 4, none⟩, (.slice (some ⟨b, off, none⟩) nl cl)), (⟨b, off + k3 * 3, none⟩, (.int .i64 x1)), (⟨b, off + k3 * 3 + 1, none⟩, (.int .i64 x2)), (⟨b, off + k3 * 3 + 2, none⟩, (.slice a1 l3.length e1))] []) => s.is.c3
                  have hS5 := fun s : SW (Kit w4 [(⟨w.heap.size, 0, none⟩, (.int .i64 ep)), (⟨w.heap.size, 1, none⟩, (.slice ax vs.length cx)), (⟨w.heap.size, 2, none⟩, (.slice ay ns cy)), (⟨w.heap.size, 3, none⟩, (.slice am nd cm)), (⟨w.heap.size, 4, none⟩, (.slice (some ⟨b, off, none⟩) nl cl)), (⟨b, off + k3 * 3, none⟩, (.int .i64 x1)), (⟨b, off + k3 * 3 + 1, none⟩, (.int .i64 x2)), (⟨b, off + k3 * 3 + 2, none⟩, (.slice a1 l3.length e1))] []) => s.is.c4
                  have hS6 := fun s : SW (Kit w4 [(⟨w.heap.size, 0, none⟩, (.int .i64 ep)), (⟨w.heap.size, 1, none⟩, (.slice ax vs.length cx)), (⟨w.heap.size, 2, none⟩, (.slice ay ns cy)), (⟨w.heap.size, 3, none⟩, (.slice am nd cm)), (⟨w.heap.size, 4, none⟩, (.slice (some ⟨b, off, none⟩) nl cl)), (⟨b, off + k3 * 3, none⟩, (.int .i64 x1)), (⟨b, off + k3 * 3 + 1, none⟩, (.int .i64 x2)), (⟨b, off + k3 * 3 + 2, none⟩, (.slice a1 l3.length e1))] []) => s.is.c5
                  have hS7 := fun s : SW (Kit w4 [(⟨w.heap.size, 0, none⟩, (.int .i64 ep)), (⟨w.heap.size, 1, none⟩, (.slice ax vs.length cx)), (⟨w.heap.size, 2, none⟩, (.slice ay ns cy)), (⟨w.heap.size, 3, none⟩, (.slice am nd cm)), (⟨w.heap.size, 4, none⟩, (.slice (some ⟨b, off, none⟩) nl cl)), (⟨b, off + k3 * 3, none⟩, (.int .i64 x1)), (⟨b, off + k3 * 3 + 1, none⟩, (.int .i64 x2)), (⟨b, off + k3 * 3 + 2, none⟩, (.slice a1 l3.length e1))] []) => s.is.c6
                  have hS8 := fun s : SW (Kit w4 [(⟨w.heap.size, 0, none⟩, (.int .i64 ep)), (⟨w.heap.size, 1, none⟩, (.slice ax vs.length cx)), (⟨w.heap.size, 2, none⟩, (.slice ay ns cy)), (⟨w.heap.size, 3, none⟩, (.slice am nd cm)), (⟨w.heap.size, 4, none⟩, (.slice (some ⟨b, off, none⟩) nl cl)), (⟨b, off + k3 * 3, none⟩, (.int .i64 x1)), (⟨b, off + k3 * 3 + 1, none⟩, (.int .i64 x2)), (⟨b, off + k3 * 3 + 2, none⟩, (.slice a1 l3.length e1))] []) => s.is.c7
                  refine wp_region_S (Kit w4 [(⟨w.heap.size, 0, none⟩, (.int .i64 ep)), (⟨w.heap.size, 1, none⟩, (.slice ax vs.length cx)), (⟨w.heap.size, 2, none⟩, (.slice ay ns cy)), (⟨w.heap.size, 3, none⟩, (.slice am nd cm)), (⟨w.heap.size, 4, none⟩, (.slice (some ⟨b, off, none⟩) nl cl)), (⟨b, off + k3 * 3, none⟩, (.int .i64 x1)), (⟨b, off + k3 * 3 + 1, none⟩, (.int .i64 x2)), (⟨b, off + k3 * 3 + 2, none⟩, (.slice a1 l3.length e1))] []) (by kernel_rfl) (by kernel_rfl) hS0 ?_
                  repeat (go_big_quiet_step ((rename_i s0; (first | (go_at_call 54; refine (l7At_any ep x1 (HW.out _ (more hBr3 s0.is.bel)).m).mono ?_; rintro e w' ⟨rfl, hb⟩; rw [HZ.out]; exact ⟨rfl, SW.of (s0.is.since hb)⟩) | (go_at_call 55; refine (l4RekeyOk_any x2 (wrapsSince HK.out (more hBr3 s0.is.bel))).mono ?_; rintro e w' ⟨rfl, hb⟩; rw [hok2]; exact ⟨rfl, SW.of (s0.is.since hb)⟩)))))
                  refine wpQuiet_nil ?_
                  rintro _ ⟨s, rfl⟩
                  have hBf := s.is.bel
                  clear hS0 hSN hS1 hS2 hS3 hS4 hS5 hS6 hS7 hS8 c0 c1 c2 c3 c4 c5 c6 c7
                  have hBF := more hBr3 hBf
                  have HN := hidW (HF.out (by rw [HM.out, hok, hok2]; rfl))
                  go_wp2
                  go_ret
                  exact ⟨by show Ending.returned (.bool false) = _; rw [HN.out], hBF⟩
                | true =>
                  by_cases he : x2 ≤ ep
                  · have hg : ¬ ep < x2 := by omega
                    go_upto_region 16 with fail
                    have hS0 : (Kit w4 [(⟨w.heap.size, 0, none⟩, (.int .i64 ep)), (⟨w.heap.size, 1, none⟩, (.slice ax vs.length cx)), (⟨w.heap.size, 2, none⟩, (.slice ay ns cy)), (⟨w.heap.size, 3, none⟩, (.slice am nd cm)), (⟨w.heap.size, 4, none⟩, (.slice (some ⟨b, off, none⟩) nl cl)), (⟨b, off + k3 * 3, none⟩, (.int .i64 x1)), (⟨b, off + k3 * 3 + 1, none⟩, (.int .i64 x2)), (⟨b, off + k3 * 3 + 2, none⟩, (.slice a1 l3.length e1))] []) wr.drew := Kit.start (hB4.drew) (fun p hp => by
                        simp only [List.mem_cons, List.not_mem_nil, or_false] at hp
                        rcases hp with rfl | rfl | rfl | rfl | rfl | rfl | rfl | rfl
                        · exact c0
                        · exact c1
                        · exact c2
                        · exact c3
                        · exact c4
                        · exact c5
                        · exact c6
                        · exact c7)
                    have hSN := SW.some hS0
                    have hS1 := fun s : SW (Kit w4 [(⟨w.heap.size, 0, none⟩, (.int .i64 ep)), (⟨w.heap.size, 1, none⟩, (.slice ax vs.length cx)), (⟨w.heap.size, 2, none⟩, (.slice ay ns cy)), (⟨w.heap.size, 3, none⟩, (.slice am nd cm)), (⟨w.heap.size, 4, none⟩, (.slice (some ⟨b, off, none⟩) nl cl)), (⟨b, off + k3 * 3, none⟩, (.int .i64 x1)), (⟨b, off + k3 * 3 + 1, none⟩, (.int .i64 x2)), (⟨b, off + k3 * 3 + 2, none⟩, (.slice a1 l3.length e1))] []) => s.is.c0
                    have hS2 := fun s : SW (Kit w4 [(⟨w.heap.size, 0, none⟩, (.int .i64 ep)), (⟨w.heap.size, 1, none⟩, (.slice ax vs.length cx)), (⟨w.heap.size, 2, none⟩, (.slice ay ns cy)), (⟨w.heap.size, 3, none⟩, (.slice am nd cm)), (⟨w.heap.size, 4, none⟩, (.slice (some ⟨b, off, none⟩) nl cl)), (⟨b, off + k3 * 3, none⟩, (.int .i64 x1)), (⟨b, off + k3 * 3 + 1, none⟩, (.int .i64 x2)), (⟨b, off + k3 * 3 + 2, none⟩, (.slice a1 l3.length e1))] []) => s.is.c1
                    have hS3 := fun s : SW (Kit w4 [(⟨w.heap.size, 0, none⟩, (.int .i64 ep)), (⟨w.heap.size, 1, none⟩, (.slice ax vs.length cx)), (⟨w.heap.size, 2, none⟩, (.slice ay ns cy)), (⟨w.heap.size, 3, none⟩, (.slice am nd cm)), (⟨w.heap.size, 4, none⟩, (.slice (some ⟨b, off, none⟩) nl cl)), (⟨b, off + k3 * 3, none⟩, (.int .i64 x1)), (⟨b, off + k3 * 3 + 1, none⟩, (.int .i64 x2)), (⟨b, off + k3 * 3 + 2, none⟩, (.slice a1 l3.length e1))] []) => s.is.c2
                    have hS4 := fun s : SW (Kit w4 [(⟨w.heap.size, 0, none⟩, (.int .i64 ep)), (⟨w.heap.size, 1, none⟩, (.slice ax vs.length cx)), (⟨w.heap.size, 2, none⟩, (.slice ay ns cy)), (⟨w.heap.size, 3, none⟩, (.slice am nd cm)), (⟨w.heap.size, 4, none⟩, (.slice (some ⟨b, off, none⟩) nl cl)), (⟨b, off + k3 * 3, none⟩, (.int .i64 x1)), (⟨b, off + k3 * 3 + 1, none⟩, (.int .i64 x2)), (⟨b, off + k3 * 3 + 2, none⟩, (.slice a1 l3.length e1))] []) => s.is.c3
                    have hS5 := fun s : SW (Kit w4 [(⟨w.heap.size, 0, none⟩, (.int .i64 ep)), (⟨w.heap.size, 1, none⟩, (.slice ax vs.length cx)), (⟨w.heap.size, 2, none⟩, (.slice ay ns cy)), (⟨w.heap.size, 3, none⟩, (.slice am nd cm)), (⟨w.heap.size, 4, none⟩, (.slice (some ⟨b, off, none⟩) nl cl)), (⟨b, off + k3 * 3, none⟩, (.int .i64 x1)), (⟨b, off + k3 * 3 + 1, none⟩, (.int .i64 x2)), (⟨b, off + k3 * 3 + 2, none⟩, (.slice a1 l3.length e1))] []) => s.is.c4
                    have hS6 := fun s : SW (Kit w4 [(⟨w.heap.size, 0, none⟩, (.int .i64 ep)), (⟨w.heap.size, 1, none⟩, (.slice ax vs.length cx)), (⟨w.heap.size, 2, none⟩, (.slice ay ns cy)), (⟨w.heap.size, 3, none⟩, (.slice am nd cm)), (⟨w.heap.size, 4, none⟩, (.slice (some ⟨b, off, none⟩) nl cl)), (⟨b, off + k3 * 3, none⟩, (.int .i64 x1)), (⟨b, off + k3 * 3 + 1, none⟩, (.int .i64 x2)), (⟨b, off + k3 * 3 + 2, none⟩, (.slice a1 l3.length e1))] []) => s.is.c5
                    have hS7 := fun s : SW (Kit w4 [(⟨w.heap.size, 0, none⟩, (.int .i64 ep)), (⟨w.heap.size, 1, none⟩, (.slice ax vs.length cx)), (⟨w.heap.size, 2, none⟩, (.slice ay ns cy)), (⟨w.heap.size, 3, none⟩, (.slice am nd cm)), (⟨w.heap.size, 4, none⟩, (.slice (some ⟨b, off, none⟩) nl cl)), (⟨b, off + k3 * 3, none⟩, (.int .i64 x1)), (⟨b, off + k3 * 3 + 1, none⟩, (.int .i64 x2)), (⟨b, off + k3 * 3 + 2, none⟩, (.slice a1 l3.length e1))] []) => s.is.c6
                    have hS8 := fun s : SW (Kit w4 [(⟨w.heap.size, 0, none⟩, (.int .i64 ep)), (⟨w.heap.size, 1, none⟩, (.slice ax vs.length cx)), (⟨w.heap.size, 2, none⟩, (.slice ay ns cy)), (⟨w.heap.size, 3, none⟩, (.slice am nd cm)), (⟨w.heap.size, 4, none⟩, (.slice (some ⟨b, off, none⟩) nl cl)), (⟨b, off + k3 * 3, none⟩, (.int .i64 x1)), (⟨b, off + k3 * 3 + 1, none⟩, (.int .i64 x2)), (⟨b, off + k3 * 3 + 2, none⟩, (.slice a1 l3.length e1))] []) => s.is.c7
                    refine wp_region_S (Kit w4 [(⟨w.heap.size, 0, none⟩, (.int .i64 ep)), (⟨w.heap.size, 1, none⟩, (.slice ax vs.length cx)), (⟨w.heap.size, 2, none⟩, (.slice ay ns cy)), (⟨w.heap.size, 3, none⟩, (.slice am nd cm)), (⟨w.heap.size, 4, none⟩, (.slice (some ⟨b, off, none⟩) nl cl)), (⟨b, off + k3 * 3, none⟩, (.int .i64 x1)), (⟨b, off + k3 * 3 + 1, none⟩, (.int .i64 x2)), (⟨b, off + k3 * 3 + 2, none⟩, (.slice a1 l3.length e1))] []) (by kernel_rfl) (by kernel_rfl) hS0 ?_
                    repeat (go_big_quiet_step ((rename_i s0; (first | (go_at_call 54; refine (l7At_any ep x1 (HW.out _ (more hBr3 s0.is.bel)).m).mono ?_; rintro e w' ⟨rfl, hb⟩; rw [HZ.out]; exact ⟨rfl, SW.of (s0.is.since hb)⟩) | (go_at_call 55; refine (l4RekeyOk_any x2 (wrapsSince HK.out (more hBr3 s0.is.bel))).mono ?_; rintro e w' ⟨rfl, hb⟩; rw [hok2]; exact ⟨rfl, SW.of (s0.is.since hb)⟩)))))
                    refine wpQuiet_nil ?_
                    rintro _ ⟨s, rfl⟩
                    have hBf := s.is.bel
                    clear hS0 hSN hS1 hS2 hS3 hS4 hS5 hS6 hS7 hS8 c0 c1 c2 c3 c4 c5 c6 c7
                    have hBF := more hBr3 hBf
                    have HN := hidW (show postTo ep ds ls (k3 + 1) = true by rw [HS.out, HP.out, HM.out, hok, hok2, decide_eq_true he]; rfl)
                    go_wp2
                    go_roundw
                    case rel => exact ⟨k3 + 1, by go_num, by omega, HN.out, hBf⟩
                    case measure => simp [intOf]; omega
                  · have hg : ep < x2 := by omega
                    go_upto_region 16 with fail
                    have hS0 : (Kit w4 [(⟨w.heap.size, 0, none⟩, (.int .i64 ep)), (⟨w.heap.size, 1, none⟩, (.slice ax vs.length cx)), (⟨w.heap.size, 2, none⟩, (.slice ay ns cy)), (⟨w.heap.size, 3, none⟩, (.slice am nd cm)), (⟨w.heap.size, 4, none⟩, (.slice (some ⟨b, off, none⟩) nl cl)), (⟨b, off + k3 * 3, none⟩, (.int .i64 x1)), (⟨b, off + k3 * 3 + 1, none⟩, (.int .i64 x2)), (⟨b, off + k3 * 3 + 2, none⟩, (.slice a1 l3.length e1))] []) wr.drew := Kit.start (hB4.drew) (fun p hp => by
                        simp only [List.mem_cons, List.not_mem_nil, or_false] at hp
                        rcases hp with rfl | rfl | rfl | rfl | rfl | rfl | rfl | rfl
                        · exact c0
                        · exact c1
                        · exact c2
                        · exact c3
                        · exact c4
                        · exact c5
                        · exact c6
                        · exact c7)
                    have hSN := SW.some hS0
                    have hS1 := fun s : SW (Kit w4 [(⟨w.heap.size, 0, none⟩, (.int .i64 ep)), (⟨w.heap.size, 1, none⟩, (.slice ax vs.length cx)), (⟨w.heap.size, 2, none⟩, (.slice ay ns cy)), (⟨w.heap.size, 3, none⟩, (.slice am nd cm)), (⟨w.heap.size, 4, none⟩, (.slice (some ⟨b, off, none⟩) nl cl)), (⟨b, off + k3 * 3, none⟩, (.int .i64 x1)), (⟨b, off + k3 * 3 + 1, none⟩, (.int .i64 x2)), (⟨b, off + k3 * 3 + 2, none⟩, (.slice a1 l3.length e1))] []) => s.is.c0
                    have hS2 := fun s : SW (Kit w4 [(⟨w.heap.size, 0, none⟩, (.int .i64 ep)), (⟨w.heap.size, 1, none⟩, (.slice ax vs.length cx)), (⟨w.heap.size, 2, none⟩, (.slice ay ns cy)), (⟨w.heap.size, 3, none⟩, (.slice am nd cm)), (⟨w.heap.size, 4, none⟩, (.slice (some ⟨b, off, none⟩) nl cl)), (⟨b, off + k3 * 3, none⟩, (.int .i64 x1)), (⟨b, off + k3 * 3 + 1, none⟩, (.int .i64 x2)), (⟨b, off + k3 * 3 + 2, none⟩, (.slice a1 l3.length e1))] []) => s.is.c1
                    have hS3 := fun s : SW (Kit w4 [(⟨w.heap.size, 0, none⟩, (.int .i64 ep)), (⟨w.heap.size, 1, none⟩, (.slice ax vs.length cx)), (⟨w.heap.size, 2, none⟩, (.slice ay ns cy)), (⟨w.heap.size, 3, none⟩, (.slice am nd cm)), (⟨w.heap.size, 4, none⟩, (.slice (some ⟨b, off, none⟩) nl cl)), (⟨b, off + k3 * 3, none⟩, (.int .i64 x1)), (⟨b, off + k3 * 3 + 1, none⟩, (.int .i64 x2)), (⟨b, off + k3 * 3 + 2, none⟩, (.slice a1 l3.length e1))] []) => s.is.c2
                    have hS4 := fun s : SW (Kit w4 [(⟨w.heap.size, 0, none⟩, (.int .i64 ep)), (⟨w.heap.size, 1, none⟩, (.slice ax vs.length cx)), (⟨w.heap.size, 2, none⟩, (.slice ay ns cy)), (⟨w.heap.size, 3, none⟩, (.slice am nd cm)), (⟨w.heap.size, 4, none⟩, (.slice (some ⟨b, off, none⟩) nl cl)), (⟨b, off + k3 * 3, none⟩, (.int .i64 x1)), (⟨b, off + k3 * 3 + 1, none⟩, (.int .i64 x2)), (⟨b, off + k3 * 3 + 2, none⟩, (.slice a1 l3.length e1))] []) => s.is.c3
                    have hS5 := fun s : SW (Kit w4 [(⟨w.heap.size, 0, none⟩, (.int .i64 ep)), (⟨w.heap.size, 1, none⟩, (.slice ax vs.length cx)), (⟨w.heap.size, 2, none⟩, (.slice ay ns cy)), (⟨w.heap.size, 3, none⟩, (.slice am nd cm)), (⟨w.heap.size, 4, none⟩, (.slice (some ⟨b, off, none⟩) nl cl)), (⟨b, off + k3 * 3, none⟩, (.int .i64 x1)), (⟨b, off + k3 * 3 + 1, none⟩, (.int .i64 x2)), (⟨b, off + k3 * 3 + 2, none⟩, (.slice a1 l3.length e1))] []) => s.is.c4
                    have hS6 := fun s : SW (Kit w4 [(⟨w.heap.size, 0, none⟩, (.int .i64 ep)), (⟨w.heap.size, 1, none⟩, (.slice ax vs.length cx)), (⟨w.heap.size, 2, none⟩, (.slice ay ns cy)), (⟨w.heap.size, 3, none⟩, (.slice am nd cm)), (⟨w.heap.size, 4, none⟩, (.slice (some ⟨b, off, none⟩) nl cl)), (⟨b, off + k3 * 3, none⟩, (.int .i64 x1)), (⟨b, off + k3 * 3 + 1, none⟩, (.int .i64 x2)), (⟨b, off + k3 * 3 + 2, none⟩, (.slice a1 l3.length e1))] []) => s.is.c5
                    have hS7 := fun s : SW (Kit w4 [(⟨w.heap.size, 0, none⟩, (.int .i64 ep)), (⟨w.heap.size, 1, none⟩, (.slice ax vs.length cx)), (⟨w.heap.size, 2, none⟩, (.slice ay ns cy)), (⟨w.heap.size, 3, none⟩, (.slice am nd cm)), (⟨w.heap.size, 4, none⟩, (.slice (some ⟨b, off, none⟩) nl cl)), (⟨b, off + k3 * 3, none⟩, (.int .i64 x1)), (⟨b, off + k3 * 3 + 1, none⟩, (.int .i64 x2)), (⟨b, off + k3 * 3 + 2, none⟩, (.slice a1 l3.length e1))] []) => s.is.c6
                    have hS8 := fun s : SW (Kit w4 [(⟨w.heap.size, 0, none⟩, (.int .i64 ep)), (⟨w.heap.size, 1, none⟩, (.slice ax vs.length cx)), (⟨w.heap.size, 2, none⟩, (.slice ay ns cy)), (⟨w.heap.size, 3, none⟩, (.slice am nd cm)), (⟨w.heap.size, 4, none⟩, (.slice (some ⟨b, off, none⟩) nl cl)), (⟨b, off + k3 * 3, none⟩, (.int .i64 x1)), (⟨b, off + k3 * 3 + 1, none⟩, (.int .i64 x2)), (⟨b, off + k3 * 3 + 2, none⟩, (.slice a1 l3.length e1))] []) => s.is.c7
                    refine wp_region_S (Kit w4 [(⟨w.heap.size, 0, none⟩, (.int .i64 ep)), (⟨w.heap.size, 1, none⟩, (.slice ax vs.length cx)), (⟨w.heap.size, 2, none⟩, (.slice ay ns cy)), (⟨w.heap.size, 3, none⟩, (.slice am nd cm)), (⟨w.heap.size, 4, none⟩, (.slice (some ⟨b, off, none⟩) nl cl)), (⟨b, off + k3 * 3, none⟩, (.int .i64 x1)), (⟨b, off + k3 * 3 + 1, none⟩, (.int .i64 x2)), (⟨b, off + k3 * 3 + 2, none⟩, (.slice a1 l3.length e1))] []) (by kernel_rfl) (by kernel_rfl) hS0 ?_
                    repeat (go_big_quiet_step ((rename_i s0; (first | (go_at_call 54; refine (l7At_any ep x1 (HW.out _ (more hBr3 s0.is.bel)).m).mono ?_; rintro e w' ⟨rfl, hb⟩; rw [HZ.out]; exact ⟨rfl, SW.of (s0.is.since hb)⟩) | (go_at_call 55; refine (l4RekeyOk_any x2 (wrapsSince HK.out (more hBr3 s0.is.bel))).mono ?_; rintro e w' ⟨rfl, hb⟩; rw [hok2]; exact ⟨rfl, SW.of (s0.is.since hb)⟩)))))
                    refine wpQuiet_nil ?_
                    rintro _ ⟨s, rfl⟩
                    have hBf := s.is.bel
                    clear hS0 hSN hS1 hS2 hS3 hS4 hS5 hS6 hS7 hS8 c0 c1 c2 c3 c4 c5 c6 c7
                    have hBF := more hBr3 hBf
                    have HN := hidW (HF.out (by rw [HM.out, hok, hok2, decide_eq_false he]; rfl))
                    go_wp2
                    go_ret
                    exact ⟨by show Ending.returned (.bool false) = _; rw [HN.out], hBF⟩
            · have HN := hidW (show worldB ep vs ss ds ls = true by
                have e : k3 = nl := by omega
                rw [HD3.out, ← HDl.out, ← e, HP.out])
              go_wp2
              go_ret
              exact ⟨by rw [HN.out]; rfl, hBr4⟩
end Go.Proofs.Ythfgiabkafdbdaa
