/- The statements on seal, their texts as values. The package's contracts are a hypothesis here. -/
import Derived.Test.YtdlcoajjhcbffaaDoorZSLaw
namespace Go.Proofs.YtdlcoajjhcbffaaDoor
open Go.RowKit
namespace Seal
open Hash (Table)

theorem ofData (a : ByteArray) : (⟨a.data.toList.toArray⟩ : ByteArray) = a := ByteArray.ext rfl
theorem t2_of {W : World} (h : Table 0 W ∧ Table 2 W) : T2 W W := ⟨h.2, h.1, Below.refl _ _⟩
theorem matchLawB (P : Pkg) (a b c : ByteArray) (w : World) (h : T2 w w) (ha : a.data.toList.length ≤ 140737488355328) (hb : b.data.toList.length ≤ 140737488355328) (hc : c.data.toList.length ≤ 140737488355328) :
    Calls Tryd.prog 3 #[.string a, .string b, .string c] w (Yes w) := by
  have := matchLaw P a.data.toList b.data.toList c.data.toList w h ha hb hc
  rwa [ofData, ofData, ofData] at this
theorem openLawB (P : Pkg) (a b c : ByteArray) (w : World) (h : T2 w w) (ha : a.data.toList.length ≤ 140737488355328) (hb : b.data.toList.length ≤ 140737488355328) (hc : c.data.toList.length ≤ 140737488355328) :
    Calls Tryd.prog 4 #[.string a, .string b, .string c] w (Yes w) := by
  have := openLaw P a.data.toList b.data.toList c.data.toList w h ha hb hc
  rwa [ofData, ofData, ofData] at this
theorem roundLawB (P : Pkg) (a b c : ByteArray) (w : World) (h : T2 w w) (ha : a.data.toList.length ≤ 140737488355328) (hb : b.data.toList.length ≤ 140737488355328) (hc : c.data.toList.length ≤ 140737488355328) :
    Calls Tryd.prog 5 #[.string a, .string b, .string c] w (Yes w) := by
  have := roundLaw P a.data.toList b.data.toList c.data.toList w h ha hb hc
  rwa [ofData, ofData, ofData] at this
theorem changedLawB (P : Pkg) (a b c d : ByteArray) (w : World) (h : T2 w w) (ha : a.data.toList.length ≤ 140737488355328) (hb : b.data.toList.length ≤ 140737488355328) (hc : c.data.toList.length ≤ 140737488355328) (hd : d.data.toList.length ≤ 140737488355328) :
    Calls Tryd.prog 6 #[.string a, .string b, .string c, .string d] w (Yes w) := by
  have := changedLaw P a.data.toList b.data.toList c.data.toList d.data.toList w h ha hb hc hd
  rwa [ofData, ofData, ofData, ofData] at this
theorem injLawB (P : Pkg) (a b c d e : ByteArray) (w : World) (h : T2 w w) (ha : a.data.toList.length ≤ 140737488355328) (hb : b.data.toList.length ≤ 140737488355328) (hc : c.data.toList.length ≤ 140737488355328) (hd : d.data.toList.length ≤ 140737488355328) (he : e.data.toList.length ≤ 140737488355328) :
    Calls Tryd.prog 7 #[.string a, .string b, .string c, .string d, .string e] w (Yes w) := by
  have := injLaw P a.data.toList b.data.toList c.data.toList d.data.toList e.data.toList w h ha hb hc hd he
  rwa [ofData, ofData, ofData, ofData, ofData] at this

end Seal
end Go.Proofs.YtdlcoajjhcbffaaDoor
