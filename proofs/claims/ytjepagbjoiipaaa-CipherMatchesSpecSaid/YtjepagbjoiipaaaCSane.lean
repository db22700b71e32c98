/- The examples that every statement on package cipher plays first. No condition. -/
import Derived.Test.YtjepagbjoiipaaaCXorC
import Derived.ChangeKeysEq
import Derived.Deep.RegionHeld3
namespace Go.Proofs.Ytjepagbjoiipaaa
open Go.RowKit
namespace Cha

theorem byte_info : (Try.prog.info? 5).map (fun i => (i.zero, i.size, i.bytes)) = some (some (.int .u8 0), 1, 1) := by kernel_rfl

/-! ### Arrays of words are compared -/
theorem part16 (xs : List Nat) (hl : xs.length = 16) (W : World) {i : Nat} (hi : i < 16) : (part 22 (xs.map wv).toArray (i * 1)).run Try.prog W = .ok (wv (xs.getD i 0)) W := by
  simp [part, isAgg, run_underlying Try.underlying22, List.getD, hl, hi]
theorem items16 (xs : List Nat) (hl : xs.length = 16) (W : World) : ∀ is : List Nat, (∀ i ∈ is, i < 16) → (Op.eqItems 9999 22 1 (xs.map wv).toArray (xs.map wv).toArray is).run Try.prog W = .ok true W
  | [], _ => by simp [Op.eqItems]
  | i :: is, h => by
    have e : (Op.equalIn 9999 22 (wv (xs.getD i 0)) (wv (xs.getD i 0))).run Try.prog W = .ok true W := by
      unfold wv
      rw [run_equalIn_int W 9998 22 .u32 .u32 _ _ Try.underlying22]
      simp
    simp only [Op.eqItems, Sem.run_bind, part16 xs hl W (h i (List.mem_cons_self ..)), e, Result.andThen_ok]
    simpa using items16 xs hl W is (fun j hj => h j (List.mem_cons_of_mem _ hj))
theorem same16 (xs : List Nat) (hl : xs.length = 16) (W : World) : (Op.equalIn 10000 23 (.agg (xs.map wv).toArray) (.agg (xs.map wv).toArray)).run Try.prog W = .ok true W := by
  obtain ⟨i, hi⟩ : ∃ i, Try.prog.info? 22 = some i := by
    cases h : Try.prog.info? 22 with
    | none => exact absurd h (by have : (Try.prog.info? 22).isSome = true := by kernel_rfl
                                 intro h2; rw [h2] at this; cases this)
    | some i => exact ⟨i, rfl⟩
  rw [run_equalIn_array W 9999 _ _ und16 hi, show Try.prog.cellsOf 22 = 1 by kernel_rfl]
  exact items16 xs hl W _ (fun i hi => List.mem_range.1 hi)

theorem one_cell (x : UInt8) : ∀ u ∈ [bv x], u.oneCell' = true := by
  intro u hu; simp at hu; subst hu; rfl
theorem fresh_one (w : World) (x : Value) (t : TypeId) : ∀ (j : Nat) (u : Value), [x][j]? = some u → (w.alloc (.cells #[x] t)).cell? ((⟨w.heap.size, 0, none⟩ : Addr).add j) = some u := by
  intro j u h
  cases j with
  | zero =>
    simp at h; subst h
    simp [Addr.add]
  | succ j => simp at h
theorem own_form {w : World} {base : Nat} {e : TypeId} {size n : Nat} {v : Value} {xs : List Value} (h : w.ownsRow base e size v n xs) (hn : 0 < n) :
    ∃ g cap, v = .slice (some ⟨g, 0, none⟩) n cap ∧ base ≤ g ∧ g < w.heap.size ∧ n ≤ cap ∧ cap ≤ maxLen := by
  rcases h.2 with ⟨_, h0⟩ | ⟨g, cap, cur, rfl, hb, hg, hc, hm, _⟩
  · omega
  · exact ⟨g, cap, rfl, hb, (Array.getElem?_eq_some_iff.1 hg).1, hc, hm⟩
theorem convO {w : World} {base g n c : Nat} {l : List UInt8} (h : w.ownsRow base 5 1 (.slice (some ⟨g, 0, none⟩) n c) n (l.map bv)) (hn : l.length = n) :
    (convert 42 9 (.slice (some ⟨g, 0, none⟩) n c)).run Try.prog w = .ok (.string ⟨l.toArray⟩) w := by
  have := run_convert_bytes_arg (P := Try.prog) (w := w) 42 5 Try.underlying42 Try.underlying5 g 0 n c (l.map fun c => (c.toNat : Int)) (by simpa using hn) ?_ 9 Try.underlying9
  · rw [this, strOf]; rfl
  · intro i hi
    have hx : l[i]? = some (l[i]'(by omega)) := List.getElem?_eq_getElem _
    rw [Nat.zero_add, h.cellAt i (by omega), List.getElem?_map, hx]
    simp [List.getD, hx, bv]

theorem exKey_at : ∀ k : Nat, k < 32 → ∃ x : UInt8, exKey[k]? = some x ∧ (k : Int) % 256 = (x.toNat : Int) := by
  intro k hk
  have h : ∀ k : Fin 32, exKey[k.val]? = some (u8 k.val) ∧ (u8 k.val).toNat = k.val := by decide +kernel
  obtain ⟨h1, h2⟩ := h ⟨k, hk⟩
  exact ⟨_, h1, by rw [h2]; simp only; omega⟩

set_option maxRecDepth 100000 in
set_option maxHeartbeats 1000000 in
theorem key_any (w : World) : Calls Try.prog 22 #[] w (GivesT exKey w) := by
  obtain ⟨i0, hi, hz0, hz1, hz2⟩ := info_parts byte_info
  have HE := Lib.hid exKey_at
  have HL : Hid (exKey.length = 32) := Lib.hid rfl
  generalize exKey = h at *
  go_enter Try.func22, Try.ntmps22
  go_wp2
  go_loopw [1, 2] (fun v iv wr => ∃ (k : Nat), k ≤ 32 ∧ iv = .int .i64 (k : Int) ∧ wr.ownsRow w.heap.size 5 1 v k ((h.take k).map bv) ∧ Below w.heap.size w wr) (fun _ iv _ => (32 - intOf iv).toNat)
  case atStart => exact ⟨0, by omega, rfl, World.ownsRow_nil _ _ _ _, Below.refl _ _⟩
  case round =>
    obtain ⟨k, hk, rfl, hown, hb⟩ := hrel
    by_cases hlt : k < 32
    · obtain ⟨x, hx, hxk⟩ := HE.out k hlt
      have htk : (h.take (k + 1)).map bv = (h.take k).map bv ++ [bv x] := by rw [List.take_add_one, hx]; simp
      have HTK := Lib.hid htk
      have z0 : (0 : Int) ≤ (k : Int) := by omega
      have z1 : (k : Int) < 32 := by omega
      have fin : ∀ v' w', w'.ownsRow w.heap.size 5 1 v' (k + 1) ((h.take k).map bv ++ [bv x]) → (wr.alloc (.cells #[bv x] 5)).grownBy w' u1.ownBlock →
          ∃ (j : Nat), j ≤ 32 ∧ Value.int .i64 ((k : Int) + 1) = .int .i64 (j : Int) ∧ w'.ownsRow w.heap.size 5 1 v' j ((h.take j).map bv) ∧ Below w.heap.size w w' := by
        intro v' w' h1 h2
        exact ⟨k + 1, by omega, by go_num, by rw [HTK.out]; exact h1, (hb.alloc hb.size _).grown h2 (by have := hb.size; simp; omega) (fun k hk => (hown.lt k hk).1)⟩
      have FIN := Lib.hid fin
      have hkx : (k : Int) = (x.toNat : Int) := by omega
      have HKX := Lib.hid hkx
      clear fin hx htk hxk hkx
      go_wp2_with (at_builtin; refine wpList_append_own _ rfl (.tmp 7) (.tmp 10) _ rfl w.heap.size 5 i0 (.int .u8 0) 1 1 Try.underlying42 hi hz0 hz1 hz2 rfl (by decide) _ k _ rfl (hown.alloc _) ⟨wr.heap.size, 0, none⟩ 1 1 [.int .u8 (k : Int)] rfl rfl (fresh_one _ _ _) (by intro u hu; simp at hu; subst hu; rfl) (by unfold maxLen; omega) (by omega) (by have := hb.size; simp; omega) ?_; intro v4 w4 ho4 hg4 _; rw [show Value.int .u8 (k : Int) = bv x from congrArg (Value.int .u8) HKX.out] at ho4 hg4)
      go_roundw
      case rel => exact FIN.out _ _ ho4 hg4
      case measure => simp [intOf]; omega
    · have hkn : k = 32 := by omega
      obtain ⟨g, c, rfl, hg1, hg2, hg3, hg4⟩ := own_form hown (by omega)
      have hown2 : wr.ownsRow w.heap.size 5 1 (.slice (some ⟨g, 0, none⟩) k c) k (h.map bv) := by
        rw [List.take_of_length_le (by rw [HL.out, hkn]; exact Nat.le_refl _)] at hown; exact hown
      have hcv := convO hown2 (by rw [HL.out, hkn])
      clear hown2
      have hz : ¬ (k : Int) < 32 := by omega
      have HB := Lib.hid hb
      clear hown hb hkn hlt hk
      go_wp2
      go_ret
      exact ⟨rfl, HB.out⟩

end Cha
end Go.Proofs.Ytjepagbjoiipaaa
