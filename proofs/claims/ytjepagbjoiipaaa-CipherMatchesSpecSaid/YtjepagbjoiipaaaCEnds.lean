/- The walks of the statements on Xor alone, for strings as the statements hand them in. No condition but the lengths that a machine allows. -/
import Derived.Test.YtjepagbjoiipaaaCSaneB
import Derived.Test.YtjepagbjoiipaaaCPrefix
namespace Go.Proofs.Ytjepagbjoiipaaa
open Go.RowKit
namespace Cha

theorem ctr_of {n : Int} (h : (Lit.int .u32 n).wf = true) : ∃ c : Nat, c < 4294967296 ∧ n = (c : Int) := by
  have hb : 0 ≤ n ∧ n < 4294967296 := by
    simp [Lit.wf, IntKind.min, IntKind.max, IntKind.signed, IntKind.bits] at h
    omega
  exact ⟨n.toNat, by omega, by omega⟩
theorem asList (a : ByteArray) : (⟨a.data.toList.toArray⟩ : ByteArray) = a := ByteArray.ext rfl
theorem twiceLawB (key nonce text : ByteArray) (ctr : Nat) (w : World) (hc : ctr < 4294967296) :
    Calls Try.prog 6 #[.string key, .int .u32 (ctr : Int), .string nonce, .string text] w (Yes w) := by
  have h := twiceLaw sanity_any key.data.toList nonce.data.toList text.data.toList ctr w hc
  rwa [asList, asList, asList] at h
theorem seekLawB (key nonce text : ByteArray) (ctr : Nat) (n : Int) (w : World) (hc : ctr < 4294967296) :
    Calls Try.prog 7 #[.string key, .int .u32 (ctr : Int), .string nonce, .string text, .int .i64 n] w (Yes w) := by
  have h := seekLaw sanity_any key.data.toList nonce.data.toList text.data.toList ctr n w hc
  rwa [asList, asList, asList] at h
theorem prefixLawB (key nonce a b : ByteArray) (ctr : Nat) (n : Int) (w : World) (hc : ctr < 4294967296) :
    Calls Try.prog 8 #[.string key, .int .u32 (ctr : Int), .string nonce, .string a, .string b, .int .i64 n] w (Yes w) := by
  have h := prefixLaw sanity_any key.data.toList nonce.data.toList a.data.toList b.data.toList ctr n w hc
  rwa [asList, asList, asList, asList] at h

end Cha
end Go.Proofs.Ytjepagbjoiipaaa
