
/- When a world is right, as facts on lists. -/
import Derived.Test.YthfgiabkafdbdaaSrv
import Derived.Test.YthfgiabkafdbdaaAp0
namespace Go.Proofs.Ythfgiabkafdbdaa
open Go.RowKit

/-- A member: its Id, its Epoch, its keys. -/
abbrev MD := Int × Int × List (Int × Int)
/-- A piece of mail: to whom, its Epoch, its wraps. -/
abbrev LD := Int × Int × List W4

def mAt (ds : List MD) (i : Nat) : MD := ds.getD i (0, 0, [])
theorem mAt_get (ds : List MD) (i : Nat) (h : i < ds.length) : mAt ds i = ds[i] := by simp [mAt, h]
def memAt (ep : Int) (ds : List MD) (i : Nat) : Bool :=
  memberB (mAt ds i).1 (mAt ds i).2.1 (mAt ds i).2.2 && (decide ((mAt ds i).2.1 ≤ ep) && (decide (i = 0) || decide ((mAt ds (i - 1)).1 < (mAt ds i).1)))
def memsTo (ep : Int) (ds : List MD) (m : Nat) : Bool := (List.range m).all (memAt ep ds)
def memsB (ep : Int) (ds : List MD) : Bool := memsTo ep ds ds.length
theorem memsTo_succ (ep : Int) (ds : List MD) (m : Nat) : memsTo ep ds (m + 1) = (memsTo ep ds m && memAt ep ds m) := by simp [memsTo, List.range_succ]
theorem memsTo_false {ep : Int} {ds : List MD} {m n : Nat} (h : memAt ep ds m = false) (hm : m < n) : memsTo ep ds n = false := by
  simp only [memsTo, List.all_eq_false, List.mem_range]
  exact ⟨m, hm, by simp [h]⟩

def hasB (ds : List MD) (id : Int) : Bool := ds.any fun d => decide (d.1 = id)
def hasTo (ds : List MD) (id : Int) (m : Nat) : Bool := (ds.take m).any fun d => decide (d.1 = id)
theorem hasTo_all (ds : List MD) (id : Int) : hasTo ds id ds.length = hasB ds id := by simp [hasTo, hasB]
theorem hasTo_succ (ds : List MD) (id : Int) (m : Nat) (h : m < ds.length) : hasTo ds id (m + 1) = (hasTo ds id m || decide (ds[m].1 = id)) := by
  unfold hasTo
  rw [List.take_succ_eq_append_getElem h, List.any_append]
  simp
theorem hasB_of {ds : List MD} {id : Int} {m : Nat} (h : m < ds.length) (e : ds[m].1 = id) : hasB ds id = true := by
  unfold hasB
  rw [List.any_eq_true]
  exact ⟨ds[m], List.getElem_mem h, by simpa using e⟩

def seatedTo (ss : List (Int × Int)) (ds : List MD) (m : Nat) : Bool := (ss.take m).all fun s => hasB ds s.1
def seatedB (ss : List (Int × Int)) (ds : List MD) : Bool := ss.all fun s => hasB ds s.1
theorem seatedTo_all (ss : List (Int × Int)) (ds : List MD) : seatedTo ss ds ss.length = seatedB ss ds := by simp [seatedTo, seatedB]
theorem seatedTo_succ (ss : List (Int × Int)) (ds : List MD) (m : Nat) (h : m < ss.length) : seatedTo ss ds (m + 1) = (seatedTo ss ds m && hasB ds ss[m].1) := by
  unfold seatedTo
  rw [List.take_succ_eq_append_getElem h, List.all_append]
  simp
theorem seatedB_false {ss : List (Int × Int)} {ds : List MD} {m : Nat} (h : m < ss.length) (e : hasB ds ss[m].1 = false) : seatedB ss ds = false := by
  unfold seatedB
  rw [List.all_eq_false]
  exact ⟨ss[m], List.getElem_mem h, by simp [e]⟩

def postAt (ep : Int) (ds : List MD) (l : LD) : Bool := hasB ds l.1 && (rkB l.2.1 l.2.2 && decide (l.2.1 ≤ ep))
def postTo (ep : Int) (ds : List MD) (ls : List LD) (m : Nat) : Bool := (ls.take m).all (postAt ep ds)
def postB (ep : Int) (ds : List MD) (ls : List LD) : Bool := ls.all (postAt ep ds)
theorem postTo_all (ep : Int) (ds : List MD) (ls : List LD) : postTo ep ds ls ls.length = postB ep ds ls := by simp [postTo, postB]
theorem postTo_succ (ep : Int) (ds : List MD) (ls : List LD) (m : Nat) (h : m < ls.length) : postTo ep ds ls (m + 1) = (postTo ep ds ls m && postAt ep ds ls[m]) := by
  unfold postTo
  rw [List.take_succ_eq_append_getElem h, List.all_append]
  simp
theorem postB_false {ep : Int} {ds : List MD} {ls : List LD} {m : Nat} (h : m < ls.length) (e : postAt ep ds ls[m] = false) : postB ep ds ls = false := by
  unfold postB
  rw [List.all_eq_false]
  exact ⟨ls[m], List.getElem_mem h, by simp [e]⟩
def mailB (ep : Int) (ds : List MD) (ls : List LD) : Bool := decide (ls.length ≤ 60) && postB ep ds ls

def worldB (ep : Int) (vs : List Int) (ss : List (Int × Int)) (ds : List MD) (ls : List LD) : Bool :=
  serverB ep vs ss && (memsB ep ds && (seatedB ss ds && mailB ep ds ls))

/-- Ids that rise from 1 to 20 are not more than 20. -/
theorem memsB_few {ep : Int} {ds : List MD} (h : memsB ep ds = true) : ds.length ≤ 20 := by
  simp only [memsB, memsTo, List.all_eq_true, List.mem_range] at h
  have hi : ∀ i, i < ds.length → ((i : Int) + 1 ≤ (mAt ds i).1 ∧ (mAt ds i).1 ≤ 20) := by
    intro i
    induction i with
    | zero =>
      intro hi
      have := h 0 hi
      simp only [memAt, memberB, headB, Bool.and_eq_true, decide_eq_true_eq] at this
      have := this.1.1.1
      omega
    | succ i ih =>
      intro hi
      have h1 := ih (by omega)
      have := h (i + 1) hi
      simp only [memAt, memberB, headB, Bool.and_eq_true, Bool.or_eq_true, decide_eq_true_eq, Nat.add_sub_cancel] at this
      have h2 := this.1.1.1
      have h3 := this.2.2
      omega
  by_cases h0 : ds.length = 0
  · omega
  · have := hi (ds.length - 1) (by omega)
    omega
theorem worldB_many {ep : Int} {vs : List Int} {ss : List (Int × Int)} {ds : List MD} {ls : List LD} (h : 20 < ds.length) : worldB ep vs ss ds ls = false := by
  have : memsB ep ds = false := by
    rw [Bool.eq_false_iff]
    intro e
    have := memsB_few e
    omega
  simp [worldB, this]
theorem worldB_mail {ep : Int} {vs : List Int} {ss : List (Int × Int)} {ds : List MD} {ls : List LD} (h : 60 < ls.length) : worldB ep vs ss ds ls = false := by
  have : decide (ls.length ≤ 60) = false := by simp; omega
  simp [worldB, mailB, this]

/-- What a list of structs with a list in each counts: how many there are, and how long their lists are. -/
def sumL {α : Type} (ds : List (Int × Int × List α)) : Nat := (ds.map fun d => d.2.2.length).sum
def sumTo {α : Type} (ds : List (Int × Int × List α)) (m : Nat) : Nat := ((ds.take m).map fun d => d.2.2.length).sum
theorem sumTo_all {α : Type} (ds : List (Int × Int × List α)) : sumTo ds ds.length = sumL ds := by simp [sumTo, sumL]
theorem sumTo_succ {α : Type} (ds : List (Int × Int × List α)) (m : Nat) (h : m < ds.length) : sumTo ds (m + 1) = sumTo ds m + ds[m].2.2.length := by
  unfold sumTo
  rw [List.take_succ_eq_append_getElem h, List.map_append, List.sum_append]
  simp
theorem sumTo_le {α : Type} (ds : List (Int × Int × List α)) (m : Nat) : sumTo ds m ≤ sumL ds := by
  unfold sumTo sumL
  conv => rhs; rw [← List.take_append_drop m ds, List.map_append, List.sum_append]
  exact Nat.le_add_right _ _
theorem len_le_sum {α : Type} (ds : List (Int × Int × List α)) (m : Nat) (h : m < ds.length) : ds[m].2.2.length ≤ sumL ds := by
  have := sumTo_succ ds m h
  have := sumTo_le ds (m + 1)
  omega
def szE (l : Int) {α : Type} (ds : List (Int × Int × List α)) : Int := if l - (ds.length : Int) - (sumL ds : Int) < 0 then -1 else l - (ds.length : Int) - (sumL ds : Int)
end Go.Proofs.Ythfgiabkafdbdaa
