
/- slices.SortFunc on keys of the call's own, by compareKeys. -/
import Derived.Test.YtkkjpkldfllfiaaLset
import Derived.Shelf.SlSortCmp.NoneTotal
import Derived.Sort.OwnSorted
namespace Go.Proofs
open Go.Shelf Go.RowKit Go.Lib Go.Sort
def Try.sortKey_ren : Go.Shelf.Ren := ⟨fun | 6 => 88 | 15 => 112 | 14 => 111 | 28 => 129 | 29 => 130 | 20 => 121 | 21 => 122 | 22 => 123 | 23 => 124 | 24 => 125 | 25 => 126 | 26 => 127 | 27 => 128 | 46 => 136 | 47 => 137 | 48 => 138 | 49 => 139 | 50 => 140 | 57 => 142 | n => n, fun | 22 => 24 | 24 => 33 | 25 => 126 | 3 => 3 | 39 => 147 | 0 => 0 | 53 => 164 | 55 => 166 | 4 => 4 | 46 => 157 | 45 => 156 | 50 => 161 | 5 => 5 | 9 => 9 | 66 => 175 | 70 => 178 | 76 => 180 | 77 => 181 | n => n, fun | n => n⟩
theorem Try.sortKey : Go.Proofs.SlLaysF0.n6 Try.prog Try.sortKey_ren := {
  mixed := by kernel_rfl
  f6 := ⟨Try.f88.name, by decide, Try.func88.trans (congrArg some (by kernel_rfl))⟩
  f14 := ⟨Try.f111.name, by decide, Try.func111.trans (congrArg some (by kernel_rfl))⟩
  f15 := Try.func112.trans (congrArg some (by kernel_rfl))
  f20 := ⟨Try.f121.name, by decide, Try.func121.trans (congrArg some (by kernel_rfl))⟩
  f21 := ⟨Try.f122.name, by decide, Try.func122.trans (congrArg some (by kernel_rfl))⟩
  f22 := ⟨Try.f123.name, by decide, Try.func123.trans (congrArg some (by kernel_rfl))⟩
  f23 := ⟨Try.f124.name, by decide, Try.func124.trans (congrArg some (by kernel_rfl))⟩
  f24 := ⟨Try.f125.name, by decide, Try.func125.trans (congrArg some (by kernel_rfl))⟩
  f25 := ⟨Try.f126.name, by decide, Try.func126.trans (congrArg some (by kernel_rfl))⟩
  f26 := ⟨Try.f127.name, by decide, Try.func127.trans (congrArg some (by kernel_rfl))⟩
  f27 := ⟨Try.f128.name, by decide, Try.func128.trans (congrArg some (by kernel_rfl))⟩
  f28 := Try.func129.trans (congrArg some (by kernel_rfl))
  f29 := Try.func130.trans (congrArg some (by kernel_rfl))
  f46 := ⟨Try.f136.name, by decide, Try.func136.trans (congrArg some (by kernel_rfl))⟩
  f47 := Try.func137.trans (congrArg some (by kernel_rfl))
  f48 := Try.func138.trans (congrArg some (by kernel_rfl))
  f49 := ⟨Try.f139.name, by decide, Try.func139.trans (congrArg some (by kernel_rfl))⟩
  f50 := ⟨Try.f140.name, by decide, Try.func140.trans (congrArg some (by kernel_rfl))⟩
  f57 := ⟨Try.f142.name, by decide, Try.func142.trans (congrArg some (by kernel_rfl))⟩
  t0 := Try.underlying0
  a0 := Try.isAgg0
  z0 := Try.sizeOf0
  v0 := Try.zeroValue0
  t3 := Try.underlying3
  a3 := Try.isAgg3
  z3 := Try.sizeOf3
  v3 := Try.zeroValue3
  t4 := Try.underlying4
  a4 := Try.isAgg4
  z4 := Try.sizeOf4
  v4 := Try.zeroValue4
  t5 := Try.underlying5
  a5 := Try.isAgg5
  z5 := Try.sizeOf5
  v5 := Try.zeroValue5
  t9 := Try.underlying9
  a9 := Try.isAgg9
  z9 := Try.sizeOf9
  v9 := Try.zeroValue9
  t22 := Try.underlying24
  a22 := Try.isAgg24
  z22 := Try.sizeOf24
  v22 := Try.zeroValue24
  t25 := Try.underlying126
  a25 := Try.isAgg126
  z25 := Try.sizeOf126
  v25 := Try.zeroValue126
  t39 := Try.underlying147
  a39 := Try.isAgg147
  z39 := Try.sizeOf147
  v39 := Try.zeroValue147
  t45 := Try.underlying156
  a45 := Try.isAgg156
  z45 := Try.sizeOf156
  v45 := Try.zeroValue156
  t46 := Try.underlying157
  a46 := Try.isAgg157
  z46 := Try.sizeOf157
  v46 := Try.zeroValue157
  t50 := Try.underlying161
  a50 := Try.isAgg161
  z50 := Try.sizeOf161
  v50 := Try.zeroValue161
  t53 := Try.underlying164
  a53 := Try.isAgg164
  z53 := Try.sizeOf164
  v53 := Try.zeroValue164
  t55 := Try.underlying166
  a55 := Try.isAgg166
  z55 := Try.sizeOf166
  v55 := Try.zeroValue166
  t66 := Try.underlying175
  a66 := Try.isAgg175
  z66 := Try.sizeOf175
  v66 := Try.zeroValue175
  t70 := Try.underlying178
  a70 := Try.isAgg178
  z70 := Try.sizeOf178
  v70 := Try.zeroValue178
  t76 := Try.underlying180
  a76 := Try.isAgg180
  z76 := Try.sizeOf180
  v76 := Try.zeroValue180
  t77 := Try.underlying181
  a77 := Try.isAgg181
  z77 := Try.sizeOf181
  v77 := Try.zeroValue181 }
namespace Ytkkjpkldfllfiaa

def encK (x : K2) : List Value := [.int .i64 x.1, .int .i64 x.2]
def cfK (x y : K2) : Int := cmpK x.1 x.2 y.1 y.2
theorem ltK (x y : K2) : ltOf cfK x y = aheadB x.1 x.2 y.1 y.2 := cmpK_neg _ _ _ _
theorem swoK : SWO (ltOf cfK) where
  irrefl x := by rw [ltK]; simp [aheadB]
  trans x y z h1 h2 := by rw [ltK] at *; simp [aheadB] at *; omega
  ntrans x y z h1 h2 := by rw [ltK] at *; simp [aheadB] at *; omega
theorem totK (x y : K2) (h1 : ltOf cfK x y = false) (h2 : ltOf cfK y x = false) : x = y := by
  rw [ltK] at h1 h2
  rcases Ah.tri x y with h | h | h
  · rw [(ah_iff x y).2 h] at h1; cases h1
  · exact h
  · rw [(ah_iff y x).2 h] at h2; cases h2
theorem cmpLaysK (blk off size : Nat) (w : World) : CmpLays Try.prog 89 #[] encK 2 cfK blk off size w :=
  fun _ _ _ _ x y => (compareKeys_any x.1 x.2 y.1 y.2 _).mono (by rintro e w' ⟨rfl, rfl⟩; exact ⟨rfl, 0, _, by rw [alloc_eq_grow, alloc_eq_grow, grow_grow]; rfl⟩)
theorem flat_kcells (ls : List K2) : (flatK encK 2 ls.toArray).toList = kcells ls := by
  apply List.ext_getElem?
  intro j
  by_cases hj : j < ls.length * 2
  · have hi : j / 2 < ls.length := by omega
    obtain ⟨e1, e2⟩ := kcells_get ls (j / 2) hi
    have hg : (flatK encK 2 ls.toArray).toList[j]? = some ((encK (ls.toArray[j / 2]!))[j % 2]!) := by
      simp [flatK, hj]
    rw [hg]
    have el : ls.toArray[j / 2]! = ls[j / 2] := by simp [hi]
    rw [el]
    have h2 : j = j / 2 * 2 ∨ j = j / 2 * 2 + 1 := by omega
    rcases h2 with e | e
    · have em : j % 2 = 0 := by omega
      rw [em]
      conv => rhs; rw [e]
      rw [e1]; rfl
    · have em : j % 2 = 1 := by omega
      rw [em]
      conv => rhs; rw [e]
      rw [e2]; rfl
  · rw [List.getElem?_eq_none (by simp; omega), List.getElem?_eq_none (by rw [kcells_length]; omega)]
theorem holdsKeys {w : World} {g : Nat} {ls : List K2} (h : KSeg g 0 ls w) (hf : ∀ o, w.frozen? ⟨g, o, none⟩ = false) : HoldsK encK 2 w g 0 ls.toArray := by
  intro j hj
  have hj' : j < ls.length * 2 := by simpa using hj
  refine ⟨?_, hf _⟩
  have e : (kcells ls)[j]? = some ((flatK encK 2 ls.toArray)[j]!) := by
    rw [← flat_kcells, Array.getElem?_toList, Array.getElem?_eq_getElem hj, getElem!_pos (flatK encK 2 ls.toArray) j hj]
  have := news_keys h j _ e
  rw [Addr.add_mid] at this
  exact this
theorem grownBy_sortedK {w : World} {g n : Nat} {os : Array Obj} (d : Array K2) : w.grownBy (sortWorldK encK 2 w g 0 n d os) (some g) := by
  refine ⟨rfl, rfl, rfl, by simp [sortWorldK, putRowK], fun k hk hne => ?_⟩
  unfold sortWorldK putRowK
  rw [heap_grow_old _ _ (by simpa using hk)]
  have : g ≠ k := fun e => hne (by rw [e])
  simp [putRow, mapBlock, Sort.ahead, Array.getElem?_modify, this]
theorem Keys.sorted {w : World} {B g cap n : Nat} {os : Array Obj} {ls ts : List K2} (h : Keys B (.slice (some ⟨g, 0, none⟩) ls.length cap) ls w) (hl : ts.length = ls.length) : Keys B (.slice (some ⟨g, 0, none⟩) ls.length cap) ts (sortWorldK encK 2 w g 0 n ts.toArray os) := by
  obtain ⟨_, h2⟩ := h
  rcases h2 with ⟨e, _⟩ | ⟨g', cap', cur, e, hb, hg, h1, h3, h4, h5⟩
  · cases e
  · injection e with e e1 e2
    injection e with e
    injection e with e
    subst e e2
    have hgl : g < w.heap.size := (Array.getElem?_eq_some_iff.1 hg).1
    refine ⟨by rw [kcells_length], .inr ⟨g, cap, putCells id 0 (flatK encK 2 ts.toArray) cur, by rw [hl], hb, ?_, by omega, h3, by simp [putCells, h4], ?_⟩⟩
    · unfold sortWorldK putRowK
      rw [heap_grow_old _ _ (by simpa using hgl)]
      simp [putRow, mapBlock, Sort.ahead, Array.getElem?_modify, hg, onCells]
    · rw [← flat_kcells]
      apply List.ext_getElem?
      intro j
      by_cases hj : j < ts.length * 2
      · have hjc : j < cur.size := by rw [h4]; omega
        rw [List.getElem?_take_of_lt hj, Array.getElem?_toList, Array.getElem?_toList]
        simp [putCells, hj, hjc]
      · rw [List.getElem?_take_eq_none (by omega), List.getElem?_eq_none (by simp; omega)]

def sortL (ls : List K2) : List K2 := ls.mergeSort fun x y => !(ltOf cfK) y x
theorem sortL_length (ls : List K2) : (sortL ls).length = ls.length := List.length_mergeSort _
theorem sortL_mem (ls : List K2) (k : K2) : k ∈ sortL ls ↔ k ∈ ls := (List.mergeSort_perm ls _).mem_iff
theorem sortL_rise (ls : List K2) (h : ls.Nodup) : Rise (sortL ls) := by
  have hp := List.pairwise_mergeSort (le := fun x y => !(ltOf cfK) y x) (fun a b c h1 h2 => by
    simp only [Bool.not_eq_true', ltK] at *
    simp [aheadB] at *
    omega) (fun a b => by
    simp only [ltK, Bool.or_eq_true, Bool.not_eq_true']
    rcases Ah.tri a b with h | h | h
    · left; cases hh : aheadB b.1 b.2 a.1 a.2
      · rfl
      · exact absurd (((ah_iff b a).1 hh).trans h) (Ah.irr _)
    · left; rw [h]; simp [aheadB]
    · right; cases hh : aheadB a.1 a.2 b.1 b.2
      · rfl
      · exact absurd (((ah_iff a b).1 hh).trans h) (Ah.irr _)) ls
  have hn : (sortL ls).Nodup := (List.mergeSort_perm ls _).nodup_iff.2 h
  refine List.Pairwise.imp ?_ (List.Pairwise.and hp hn)
  rintro a b ⟨h1, h2⟩
  simp only [Bool.not_eq_true', ltK] at h1
  rcases Ah.tri a b with h | h | h
  · exact h
  · exact absurd h h2
  · rw [(ah_iff b a).2 h] at h1; cases h1

theorem sortKeys_any (v : Value) (ls : List K2) (B : Nat) (w : World) (h : Keys B v ls w) (hl : ls.length ≤ 1000000) :
    Calls Try.prog 88 #[v, .func (.func 89) #[] #[]] w fun e w' => e = .returned (.tuple #[]) ∧ Keys B v (sortL ls) w' ∧ w.grownBy w' v.ownBlock := by
  rcases h.form with ⟨rfl, rfl⟩ | ⟨g, cap, rfl, hB, hg, _, _, hseg, hfz⟩
  · refine (AnyF.slices_SortFunc_none { Try.sortKey with } none 0 _ w).mono fun e w' ⟨h1, h2⟩ => ⟨h1, ?_, ?_⟩
    · rw [h2]
      have : sortL [] = [] := by simp [sortL]
      rw [this]; exact h
    · rw [h2]; exact World.grownBy.refl _ _
  · have eg : ∀ args w, (callFunc 89 args).run Try.prog w = .ok (.enter 89 args) w := enters_of Try.func89 (by kernel_rfl) rfl
    have hcon := AnyQ.slices_SortFunc_total Try.sortKey 2 (by intro w; kernel_rfl) (by intro w; kernel_rfl) encK (fun _ => rfl) (fun x v hv => by simp [encK] at hv; rcases hv with rfl | rfl <;> rfl) cfK swoK 89 #[] g 0 cap ls.toArray w eg (cmpLaysK _ _ _ _) (holdsKeys hseg hfz) hg (by simp; omega) totK
    refine hcon.mono fun e w' ⟨h1, n, os, h2⟩ => ⟨h1, ?_, ?_⟩
    · rw [h2]
      exact Keys.sorted h (sortL_length ls)
    · rw [h2]
      exact grownBy_sortedK _
end Ytkkjpkldfllfiaa
end Go.Proofs
