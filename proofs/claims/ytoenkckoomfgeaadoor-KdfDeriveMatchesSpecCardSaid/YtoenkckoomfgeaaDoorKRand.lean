/- The walks of the statements KdfRandomMatchesSpec and KdfBytesInParts. Condition: the tables that are named read as the program lays them, the seed is of at most 2^47 bytes; the package's contracts are a hypothesis here. -/
import Derived.Test.YtoenkckoomfgeaaDoorKLaw
namespace Go.Proofs.YtoenkckoomfgeaaDoor
open Go.RowKit
namespace Kdf
open Hash (Table tabj bcj GivesT sizeS Arr)
open Wire (encStr bv sv Lies b1 lies_lit)

set_option maxRecDepth 100000 in
set_option maxHeartbeats 2000000 in
theorem randLaw (P : Pkg) (seed : List UInt8) (n : Int) (w : World) (hk : seed.length ≤ 140737488355328) (h : T2 w w) :
    Calls Tryd.prog 6 #[.string ⟨seed.toArray⟩, .int .i64 n] w (Yes w) := by
  have HS := Lib.hid (sanity_any P)
  have Y := h
  have hsk := sizeS seed
  clear h
  by_cases h1 : seed.length ≤ 400
  · by_cases h2 : 400 < n ∧ n ≤ 8000
    · obtain ⟨h3, h4⟩ := h2
      clear P
      go_enter Tryd.func6, Tryd.ntmps6
      go_wp2_with (first
        | (go_at_call 9; (with_reducible refine (HS.out _ Y.rt).mono ?_); rintro e w1 ⟨rfl, hb⟩; replace Y := Y.on hb; clear hb))
      all_goals
        go_ret
        exact ⟨rfl, Y.bel⟩
    · have F1 : Hid (∀ W, Table 1 W → Calls Tryd.prog 17 #[.agg #[.string ⟨seed.toArray⟩]] W (GivesR (val seed) (nxt seed) W)) := Lib.hid (fun W hT => P.nextP seed W (by omega) hT)
      have F2 := Lib.hid (fun (x : Value) (t : TypeId) W (hT : Table 0 W) => kept (fun W hT => refNext_any seed W (by omega) hT) x t W hT)
      have F3 := Lib.hid (fun (x : Value) (t : TypeId) W (hT : Table 1 W) => kept (fun W hT => P.bytesP seed n W (by omega) hT) x t W hT)
      have F4 := Lib.hid (fun (x : Value) (t : TypeId) W (hT : Table 0 W) => kept (fun W hT => refBytes_any seed n W (by omega) hT) x t W hT)
      have q1 := eqT (val seed)
      have q2 := eqT (nxt seed)
      have q3 := eqT (bytesR seed n).1
      have q4 := eqT (bytesR seed n).2
      generalize val seed = V at F1 F2 q1
      generalize nxt seed = S at F1 F2 q2
      generalize (bytesR seed n).1 = X at F3 F4 q3
      generalize (bytesR seed n).2 = G at F3 F4 q4
      have hcase : n ≤ 400 ∨ 8000 < n := by omega
      clear P h2
      rcases hcase with h2 | h2
      all_goals
        try have h3 : ¬ n ≤ 8000 := by omega
        try have h3 : ¬ 400 < n := by omega
        go_enter Tryd.func6, Tryd.ntmps6
        go_wp2_with (first
          | (go_at_call 9; (with_reducible refine (HS.out _ Y.rt).mono ?_); rintro e w1 ⟨rfl, hb⟩; replace Y := Y.on hb; clear hb)
          | (go_at_call 17; (with_reducible refine (F1.out _ Y.rt).mono ?_); rintro e w2 ⟨rfl, hb⟩; replace Y := Y.on hb; clear hb)
          | (go_at_call 18; (with_reducible refine (F2.out _ _ _ Y.ct).mono ?_); rintro e w3 ⟨rfl, hb, K1⟩; replace Y := Y.on hb; clear hb)
          | (go_at_call 19; (with_reducible refine (F3.out _ _ _ Y.rt).mono ?_); rintro e w4 ⟨rfl, hb, K2⟩; replace Y := Y.on hb; replace K1 := keptA K1 hb (by omega); clear hb)
          | (go_at_call 20; (with_reducible refine (F4.out _ _ _ Y.ct).mono ?_); rintro e w5 ⟨rfl, hb, K3⟩; replace Y := Y.on hb; replace K1 := keptA K1 hb (by omega); replace K2 := keptA K2 hb (by omega); clear hb; have Kw := b1 w5 (.cells #[.string ⟨G.toArray⟩] 36); have c1 := cellA (keptA K1 Kw (by omega)); have c2 := cellA (keptA K2 Kw (by omega)); have c3 := cellA (keptA K3 Kw (by omega))))
        go_ret
        exact ⟨rfl, bcj Y.bel Kw⟩
  · clear P
    go_enter Tryd.func6, Tryd.ntmps6
    go_wp2_with (first
      | (go_at_call 9; (with_reducible refine (HS.out _ Y.rt).mono ?_); rintro e w1 ⟨rfl, hb⟩; replace Y := Y.on hb; clear hb))
    all_goals
      go_ret
      exact ⟨rfl, Y.bel⟩

/-- The table of the package is there, and what was there is as it was. -/
structure T1 (w W : World) : Prop where
  rt : Table 1 W
  bel : Below w.heap.size w W
theorem T1.on {w W W2 : World} (h : T1 w W) (hb : Below W.heap.size W W2) : T1 w W2 := ⟨tabj h.rt hb, bcj h.bel hb⟩
theorem bytesR_nat (s : List UInt8) {n : Nat} (h : n ≤ 8000) : bytesR s (n : Int) = (bytes s n, after s (need n)) := by
  unfold bytesR
  rw [if_neg (by omega), Int.toNat_natCast]

set_option maxRecDepth 100000 in
set_option maxHeartbeats 2000000 in
theorem partsLaw (P : Pkg) (seed : List UInt8) (t8 n : Nat) (w : World) (hk : seed.length ≤ 140737488355328) (ht : t8 < 256) (hn : n < 256) (h : T1 w w) :
    Calls Tryd.prog 7 #[.string ⟨seed.toArray⟩, .int .u8 (t8 : Int), .int .u8 (n : Int)] w (Yes w) := by
  have HS := Lib.hid (sanity_any P)
  have Y := h
  have hsk := sizeS seed
  clear h
  by_cases h1 : seed.length ≤ 400
  · obtain ⟨j, hj⟩ : ∃ j, j = t8 % 8 := ⟨_, rfl⟩
    have hmod : ((t8 : Int) % 8) = (j : Int) := by rw [hj]; norm_cast
    have hj8 : j < 8 := by omega
    clear hj
    have hal := after_length (s := seed) (b := 400) h1 (by omega) j
    have F1 : Hid (∀ W, Table 1 W → Calls Tryd.prog 19 #[.agg #[.string ⟨seed.toArray⟩], .int .i64 (32 * (j : Int))] W (GivesR (bytes seed (32 * j)) (after seed j) W)) := Lib.hid (fun W hT => by
      have := P.bytesP seed ((32 * j : Nat) : Int) W (by omega) hT
      rw [bytesR_nat seed (by omega), need_mul] at this
      rwa [show ((32 * j : Nat) : Int) = 32 * (j : Int) by norm_cast] at this)
    have F2 := Lib.hid (fun (x : Value) (t : TypeId) W (hT : Table 1 W) => kept (f := 19) (args := #[.agg #[.string ⟨(after seed j).toArray⟩], .int .i64 (n : Int)]) (R := fun e => e = .returned (.tuple #[.string ⟨(bytes (after seed j) n).toArray⟩, .agg #[.string ⟨(after seed (need (32 * j + n))).toArray⟩]])) (fun W hT => by
      have := P.bytesP (after seed j) (n : Int) W (by omega) hT
      rw [bytesR_nat _ (by omega), after_add, ← need_add] at this
      exact this) x t W hT)
    have F3 := Lib.hid (fun (x : Value) (t : TypeId) W (hT : Table 1 W) => kept (f := 19) (args := #[.agg #[.string ⟨seed.toArray⟩], .int .i64 (32 * (j : Int) + (n : Int))]) (R := fun e => e = .returned (.tuple #[.string ⟨(bytes seed (32 * j + n)).toArray⟩, .agg #[.string ⟨(after seed (need (32 * j + n))).toArray⟩]])) (fun W hT => by
      have := P.bytesP seed ((32 * j + n : Nat) : Int) W (by omega) hT
      rw [bytesR_nat _ (by omega)] at this
      rw [show ((32 * j + n : Nat) : Int) = 32 * (j : Int) + (n : Int) by norm_cast] at this
      exact this) x t W hT)
    have ha := appS (bytes seed (32 * j)) (bytes (after seed j) n)
    rw [bytes_parts] at ha
    have q1 := eqT (bytes seed (32 * j + n))
    have q2 := eqT (after seed (need (32 * j + n)))
    have la := bytes_length seed (32 * j)
    have lb := bytes_length (after seed j) n
    have lc := bytes_length seed (32 * j + n)
    have zc := sizeS (bytes seed (32 * j + n))
    have za := sizeS (bytes seed (32 * j))
    have zb := sizeS (bytes (after seed j) n)
    rw [la] at za
    rw [lb] at zb
    rw [lc] at zc
    generalize bytes seed (32 * j) = A at *
    generalize bytes (after seed j) n = B at *
    generalize bytes seed (32 * j + n) = C at *
    generalize after seed (need (32 * j + n)) = G at *
    generalize after seed j = S at *
    have hlen : ((32 * j + n : Nat) : Int) = 32 * (j : Int) + (n : Int) := by norm_cast
    have la9 : A.length ≤ 300 := by omega
    have lb9 : B.length ≤ 300 := by omega
    clear P la lb lc
    go_enter Tryd.func7, Tryd.ntmps7
    go_wp2_with (first
      | (go_at_call 9; (with_reducible refine (HS.out _ Y.rt).mono ?_); rintro e w1 ⟨rfl, hb⟩; replace Y := Y.on hb; clear hb)
      | (go_at_call 19; (with_reducible refine (F1.out _ Y.rt).mono ?_); rintro e w2 ⟨rfl, hb⟩; replace Y := Y.on hb; clear hb)
      | (go_at_call 19; (with_reducible refine (F2.out _ _ _ Y.rt).mono ?_); rintro e w3 ⟨rfl, hb, K1⟩; replace Y := Y.on hb; clear hb)
      | (go_at_call 19; (with_reducible refine (F3.out _ _ _ Y.rt).mono ?_); rintro e w4 ⟨rfl, hb, K2⟩; replace Y := Y.on hb; replace K1 := keptA K1 hb (by omega); clear hb; have Kw := b1 w4 (.cells #[.string ⟨G.toArray⟩] 33); have c1 := cellA (keptA K1 Kw (by omega)); have c2 := cellA (keptA K2 Kw (by omega))))
    go_ret
    exact ⟨rfl, bcj Y.bel Kw⟩
  · clear P
    go_enter Tryd.func7, Tryd.ntmps7
    go_wp2_with (first
      | (go_at_call 9; (with_reducible refine (HS.out _ Y.rt).mono ?_); rintro e w1 ⟨rfl, hb⟩; replace Y := Y.on hb; clear hb))
    all_goals
      go_ret
      exact ⟨rfl, Y.bel⟩

end Kdf
end Go.Proofs.YtoenkckoomfgeaaDoor
