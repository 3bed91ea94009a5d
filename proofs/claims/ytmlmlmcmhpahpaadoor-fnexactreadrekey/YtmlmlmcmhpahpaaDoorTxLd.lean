
/- What the listed package variables hold, read off the rows' condition: the two errors of the package, and the table of the powers of ten. -/
import Derived.Test.YtmlmlmcmhpahpaaDoorTk1
import Derived.Stop.LaidErr
import Derived.Lib.LaidTab
import Derived.LaidMore
import Derived.RowKitTokens
namespace Go.Proofs.YtmlmlmcmhpahpaaDoor
open Go.RowKit Go.ChangeShapes Go.WideShapes
namespace Tx

theorem star : "*" ++ "errors.errorString" = "*errors.errorString" := by decide
theorem rowES (u : TypeId) (h : Tryd.prog.typeName? 3 u = some "*errors.errorString") : u = 135 :=
  typeName_ptr_named (nm := "errors.errorString") (by rw [star]; kernel_rfl) (by kernel_rfl) (by decide) u (by rw [star]; exact h)
theorem cellsES : Tryd.prog.cellsOf 152 = 1 := by kernel_rfl
theorem cellsStr : Tryd.prog.cellsOf 9 = 1 := by kernel_rfl
theorem gFormT : (Tryd.prog.globals[0]?).map (·.type) = some 78 := by kernel_rfl
theorem gNoTextT : (Tryd.prog.globals[1]?).map (·.type) = some 78 := by kernel_rfl
/-- A listed error, at the head of the list. -/
theorem laidErr {n : String} {text : List UInt8} {r : List (String × DataW Unit)} {W : World} {g : Nat} (h : laidMet Tryd.prog ((n, .iface "*errors.errorString" (.ptr (.agg [.lit (.string text)]))) :: r) W)
    (hg : Tryd.prog.globalNamed n = some g) (ht : (Tryd.prog.globals[g]?).map (·.type) = some 78) : ∃ a, W.var? Tryd.prog n = some #[.iface 135 (.pointer (some a))] := by
  obtain ⟨a, s, hv, _⟩ := laid_sentinel h hg ht Tryd.underlying78 rowES Tryd.underlying135 Tryd.underlying152 rfl rfl Tryd.underlying9 cellsES cellsStr
  exact ⟨a, hv⟩
/-- Behind a call that makes memory alone a package variable holds what it held. -/
theorem varSince {n : String} {g : Nat} {W W' : World} {cs : Array Value} (hg : Tryd.prog.globalNamed n = some g) (hb : Below W.heap.size W W') (h : W.var? Tryd.prog n = some cs) : W'.var? Tryd.prog n = some cs := by
  unfold World.var? at h ⊢
  simp only [hg, Option.bind_some] at h ⊢
  have hlt : g < W.heap.size := by
    rcases Nat.lt_or_ge g W.heap.size with h' | h'
    · exact h'
    · simp [Array.getElem?_eq_none h'] at h
  rw [hb.block g hlt]
  exact h
theorem gPowT : (Tryd.prog.globals[2]?).map (·.type) = some 125 := by kernel_rfl
theorem laidPow {r : List (String × DataW Unit)} {W : World} (h : laidMet Tryd.prog ((powName, Rows.laid_internal_strconv_uint64pow10) :: r) W) : HasPow W :=
  Lib.tabIs_of_head gPow gPowT Tryd.underlying125 Tryd.underlying115 (by kernel_rfl) (by kernel_rfl) (show laidMet Tryd.prog ((powName, Lib.tabData .u64 Lib.pow10Tab) :: r) W from h)
end Tx
end Go.Proofs.YtmlmlmcmhpahpaaDoor
