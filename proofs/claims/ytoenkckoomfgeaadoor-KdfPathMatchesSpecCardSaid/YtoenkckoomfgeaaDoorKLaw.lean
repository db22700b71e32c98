/- The walks of the statements KdfDeriveMatchesSpec and KdfPathMatchesSpec. Condition: the tables read as the program lays them, the texts are of at most 2^47 bytes; the package's contracts are a hypothesis here. -/
import Derived.Test.YtoenkckoomfgeaaDoorKPkg
import Derived.Test.YtoenkckoomfgeaaDoorHFew
import Derived.Test.YtoenkckoomfgeaaDoorQTail
namespace Go.Proofs.YtoenkckoomfgeaaDoor
open Go.RowKit
namespace Kdf
open Hash (Table tabj bcj GivesT sizeS Arr fewB fewB_all few_any)
open Wire (encStr bv sv Lies b1 lies_lit)

/-- The tables; the slice of texts that came in. -/
structure LX (w W : World) (A : Option Addr) (n c : Nat) (l : List (List UInt8)) : Prop where
  t : T2 w W
  arg : Lies W W.heap.size 1 A n c (l.map sv)
theorem LX.on {w W W2 : World} {A : Option Addr} {n c : Nat} {l : List (List UInt8)} (h : LX w W A n c l) (hb : Below W.heap.size W W2) : LX w W2 A n c l := ⟨h.t.on hb, h.arg.on hb⟩
theorem strSz (w : World) : (sizeOf (Tryd.prog.elem 22)).run Tryd.prog w = .ok 1 w := by kernel_rfl
theorem slice_to {A : Option Addr} {n c k : Nat} (hk : k ≤ n) (hle : n ≤ c) (hs : 0 < c → ∃ b o, A = some ⟨b, o, none⟩) (W : World) :
    (Instr.slice 22 (.slice A n c) none (some (.int .i64 (k : Int))) none).run Tryd.prog W = .ok (.slice A k c) W := by
  rw [run_slice_h (P := Tryd.prog) (w := W) 22 A n c (by kernel_rfl) .i64 (k : Int) (by omega) (by omega), strSz]
  by_cases h0 : c = 0
  · simp [Result.andThen, sliced, h0]
  · obtain ⟨b, o, rfl⟩ := hs (by omega)
    simp [Result.andThen, sliced, h0, Addr.add]
theorem slice_from (A : Option Addr) (n c k : Nat) (hk : k ≤ n) : ∃ A2, (∀ W : World, (Instr.slice 22 (.slice A n c) (some (.int .i64 (k : Int))) none none).run Tryd.prog W = .ok (.slice A2 (n - k) (c - k)) W) ∧
    ∀ (w : World) (B : Nat) (xs : List Value), Lies w B 1 A n c xs → Lies w B 1 A2 (n - k) (c - k) (xs.drop k) := by
  refine ⟨if c = k then A else A.map (·.add (k * 1)), fun W => ?_, fun w B xs h => ?_⟩
  · rw [run_slice_l (P := Tryd.prog) (w := W) 22 A n c (by kernel_rfl) .i64 (k : Int) (by omega) (by omega), strSz]
    simp [Result.andThen, sliced]
  · have hl := h.len
    have hle := h.le
    by_cases hc : c = k
    · rw [if_pos hc]
      exact ⟨by rw [List.length_drop]; omega, by omega, by have := h.most; omega, fun h2 => absurd h2 (by omega), fun h2 => absurd h2 (by omega)⟩
    · obtain ⟨b, o, rfl⟩ := h.some_ (by omega)
      rw [if_neg hc, show (some (⟨b, o, Option.none⟩ : Addr)).map (·.add (k * 1)) = some ⟨b, o + k, Option.none⟩ by rw [Option.map_some, Addr.add_mid, Nat.mul_one]]
      refine ⟨by rw [List.length_drop]; omega, by omega, by have := h.most; omega, fun _ => ⟨b, o + k, rfl⟩, fun hp => ?_⟩
      obtain ⟨b2, o2, e, hb, hcl⟩ := h.cells (by omega)
      simp only [Option.some.injEq, Addr.mk.injEq, and_true] at e
      obtain ⟨rfl, rfl⟩ := e
      refine ⟨b, o + k, rfl, hb, fun j u hu => ?_⟩
      rw [Nat.add_assoc]
      refine hcl (k + j) u ?_
      rw [← hu]; simp
theorem lies_take {w : World} {B : Nat} {A : Option Addr} {n c k : Nat} {xs : List Value} (h : Lies w B 1 A n c xs) (hk : k ≤ n) : Lies w B 1 A k c (xs.take k) := by
  have hl := h.len
  refine ⟨by rw [List.length_take]; omega, by have := h.le; omega, h.most, h.some_, fun hp => ?_⟩
  obtain ⟨b, o, e, hb, hc⟩ := h.cells (by omega)
  refine ⟨b, o, e, hb, fun j u hu => hc j u ?_⟩
  rw [List.getElem?_take] at hu
  split at hu
  · exact hu
  · cases hu
theorem T2.refl {w : World} (h1 : Table 1 w) (h2 : Table 0 w) : T2 w w := ⟨h1, h2, Below.refl _ _⟩

set_option maxRecDepth 100000 in
set_option maxHeartbeats 2000000 in
theorem deriveLaw (P : Pkg) (key label : List UInt8) (l : List (List UInt8)) (n c : Nat) (A : Option Addr) (w : World) (hl : Lies w w.heap.size 1 A n c (l.map sv)) (hk : key.length ≤ 140737488355328) (hb : label.length ≤ 140737488355328) (h : T2 w w) :
    Calls Tryd.prog 3 #[.string ⟨key.toArray⟩, .string ⟨label.toArray⟩, .slice A n c] w (Yes w) := by
  have Y : LX w w A n c l := ⟨h, hl⟩
  have HS := Lib.hid (sanity_any P)
  have FEW := Lib.hid (fun W (h : LX w W A n c l) => few_any l n c A W h.arg)
  have hsk := sizeS key
  have hsl := sizeS label
  clear h hl
  by_cases h1 : key.length ≤ 400
  · by_cases h2 : label.length ≤ 400
    · cases hf : fewB l with
      | false =>
        rw [hf] at FEW
        clear hf P
        go_enter Tryd.func3, Tryd.ntmps3
        go_wp2_with (first
          | (go_at_call 9; (with_reducible refine (HS.out _ Y.t.rt).mono ?_); rintro e w1 ⟨rfl, hb⟩; replace Y := Y.on hb; clear hb)
          | (go_at_call 10; (with_reducible refine (FEW.out _ Y).mono ?_); rintro e w2 ⟨rfl, rfl⟩))
        all_goals
          go_ret
          exact ⟨rfl, Y.t.bel⟩
      | true =>
        obtain ⟨h12, h400⟩ := fewB_all hf
        rw [hf] at FEW
        have hin := input_le h2 h12 h400
        have E1 := Lib.hid (fun W (h : LX w W A n c l) => P.deriveP key label l n c A W h.arg (by omega) (by omega) h.t.rt)
        have E2 := Lib.hid (fun W (h : LX w W A n c l) => refDerive_any key label l n c A W h.arg (by omega) (by omega) h.t.ct)
        have q1 := eqT (derive key label l)
        generalize derive key label l = D at E1 E2 q1
        clear hf P hin h12 h400
        go_enter Tryd.func3, Tryd.ntmps3
        go_wp2_with (first
          | (go_at_call 9; (with_reducible refine (HS.out _ Y.t.rt).mono ?_); rintro e w1 ⟨rfl, hb⟩; replace Y := Y.on hb; clear hb)
          | (go_at_call 10; (with_reducible refine (FEW.out _ Y).mono ?_); rintro e w2 ⟨rfl, rfl⟩)
          | (go_at_call 11; (with_reducible refine (E1.out _ Y).mono ?_); rintro e w3 ⟨rfl, hb⟩; replace Y := Y.on hb; clear hb)
          | (go_at_call 12; (with_reducible refine (E2.out _ Y).mono ?_); rintro e w4 ⟨rfl, hb⟩; replace Y := Y.on hb; clear hb))
        all_goals
          go_ret
          exact ⟨rfl, Y.t.bel⟩
    · clear P FEW
      go_enter Tryd.func3, Tryd.ntmps3
      go_wp2_with (first
        | (go_at_call 9; (with_reducible refine (HS.out _ Y.t.rt).mono ?_); rintro e w1 ⟨rfl, hb⟩; replace Y := Y.on hb; clear hb))
      all_goals
        go_ret
        exact ⟨rfl, Y.t.bel⟩
  · clear P FEW
    go_enter Tryd.func3, Tryd.ntmps3
    go_wp2_with (first
      | (go_at_call 9; (with_reducible refine (HS.out _ Y.t.rt).mono ?_); rintro e w1 ⟨rfl, hb⟩; replace Y := Y.on hb; clear hb))
    all_goals
      go_ret
      exact ⟨rfl, Y.t.bel⟩

set_option maxRecDepth 100000 in
set_option maxHeartbeats 2000000 in
theorem pathLaw (P : Pkg) (key : List UInt8) (l : List (List UInt8)) (t : Nat) (n c : Nat) (A : Option Addr) (w : World) (hl : Lies w w.heap.size 1 A n c (l.map sv)) (hk : key.length ≤ 140737488355328) (ht : t < 256) (h : T2 w w) :
    Calls Tryd.prog 4 #[.string ⟨key.toArray⟩, .slice A n c, .int .u8 (t : Int)] w (Yes w) := by
  have Y : LX w w A n c l := ⟨h, hl⟩
  have HS := Lib.hid (sanity_any P)
  have FEW := Lib.hid (fun W (h : LX w W A n c l) => few_any l n c A W h.arg)
  have hsk := sizeS key
  have hn : l.length = n := by have := hl.len; simpa using this
  have hle := hl.le
  have hmost : c ≤ 9223372036854775807 := by have := hl.most; unfold maxLen at this; omega
  clear h hl
  by_cases h1 : key.length ≤ 400
  · cases hf : fewB l with
    | false =>
      rw [hf] at FEW
      clear hf P
      go_enter Tryd.func4, Tryd.ntmps4
      go_wp2_with (first
        | (go_at_call 9; (with_reducible refine (HS.out _ Y.t.rt).mono ?_); rintro e w1 ⟨rfl, hb⟩; replace Y := Y.on hb; clear hb)
        | (go_at_call 10; (with_reducible refine (FEW.out _ Y).mono ?_); rintro e w2 ⟨rfl, rfl⟩))
      all_goals
        go_ret
        exact ⟨rfl, Y.t.bel⟩
    | true =>
      obtain ⟨h12, h400⟩ := fewB_all hf
      rw [hf] at FEW
      obtain ⟨k, hkd⟩ : ∃ k, k = t % (n + 1) := ⟨_, rfl⟩
      have hkn : k ≤ n := by rw [hkd]; exact Nat.le_of_lt_succ (Nat.mod_lt t (Nat.succ_pos n))
      have E1 := Lib.hid (fun W (h : LX w W A n c l) => P.pathP key l n c A W h.arg (by omega) (fun s hs => Nat.le_trans (h400 s hs) (by omega)) h.t.rt)
      have E2 := Lib.hid (fun W (h : LX w W A n c l) => refPath_any key l n c A W h.arg (by omega) (fun s hs => Nat.le_trans (h400 s hs) (by omega)) h.t.ct)
      have hpl := path_length (k := key) (b := 400) h1 (by omega) (l.take k)
      have hsp := path_split key l k
      have hmod : ((t : Int) % ((n : Int) + 1)) = (k : Int) := by rw [hkd]; norm_cast
      clear hkd
      have h13 : n ≤ 12 := by omega
      have s1 := slice_to hkn hle Y.arg.some_
      obtain ⟨A2, s2, hA2⟩ := slice_from A n c k hkn
      have E3 := Lib.hid (fun W (h : LX w W A n c l) => P.pathP key (l.take k) k c A W (by have := lies_take h.arg hkn; rwa [← List.map_take] at this) (by omega) (fun s hs => Nat.le_trans (h400 s (List.mem_of_mem_take hs)) (by omega)) h.t.rt)
      have E4 := Lib.hid (fun W (h : LX w W A n c l) => P.pathP (path key (l.take k)) (l.drop k) (n - k) (c - k) A2 W (by have := hA2 W _ _ h.arg; rwa [← List.map_drop] at this) (by omega) (fun s hs => Nat.le_trans (h400 s (List.mem_of_mem_drop hs)) (by omega)) h.t.rt)
      rw [hsp] at E4
      have q1 := eqT (path key l)
      generalize path key (l.take k) = M at E3 E4
      generalize path key l = D at E1 E2 E4 q1
      clear hpl hsp hA2 hf P h12 h400
      go_enter Tryd.func4, Tryd.ntmps4
      go_wp2_with (first
        | (go_at_call 9; (with_reducible refine (HS.out _ Y.t.rt).mono ?_); rintro e w1 ⟨rfl, hb⟩; replace Y := Y.on hb; clear hb)
        | (go_at_call 10; (with_reducible refine (FEW.out _ Y).mono ?_); rintro e w2 ⟨rfl, rfl⟩)
        | (go_at_call 13; (with_reducible refine (E1.out _ Y).mono ?_); rintro e w3 ⟨rfl, hb⟩; replace Y := Y.on hb; clear hb))
      replace Y := Y.on (Wire.bd _ 1)
      refine QTail.whole (fun W => LX w W A n c l) (by kernel_rfl) (by kernel_rfl) Y ?_
      clear Y
      (refine wpQuiet_step (fun K hK => ?_); go_simp; (first | refine hK _ ?_ | refine ⟨_, fun _ _ => rfl, hK _ ?_⟩); clear hK K)
      (refine wpQuiet_step (fun K hK => ?_); go_simp; (first | refine hK _ ?_ | refine ⟨_, fun _ _ => rfl, hK _ ?_⟩); clear hK K)
      (refine wpQuiet_step (fun K hK => ?_); go_simp; (first | refine hK _ ?_ | refine ⟨_, fun _ _ => rfl, hK _ ?_⟩); clear hK K)
      (refine wpQuiet_step (fun K hK => ?_); go_simp; (first | refine hK _ ?_ | refine ⟨_, fun _ _ => rfl, hK _ ?_⟩); clear hK K)
      (refine wpQuiet_step (fun K hK => ?_); go_simp; (first | refine hK _ ?_ | refine ⟨_, fun _ _ => rfl, hK _ ?_⟩); clear hK K)
      (refine wpQuiet_step (fun K hK => ?_); go_simp; refine ⟨_, fun W hW => (E2.out W hW).mono fun e w' ⟨he, hb⟩ => ⟨he, hW.on hb⟩, hK _ ?_⟩; clear hK K)
      (refine wpQuiet_step (fun K hK => ?_); go_simp; refine ⟨.bool true, fun W hW => ?_, hK _ ?_⟩; (first | (rw [q1 W]; exact ⟨rfl, rfl⟩) | (rw [q1 W]; rfl) | exact ⟨rfl, rfl⟩ | rfl); clear hK K)
      (refine wpQuiet_step (fun K hK => ?_); go_simp; (first | refine hK _ ?_ | refine ⟨_, fun _ _ => rfl, hK _ ?_⟩); clear hK K)
      (refine wpQuiet_step (fun K hK => ?_); go_simp; (first | refine hK _ ?_ | refine ⟨_, fun _ _ => rfl, hK _ ?_⟩); clear hK K)
      (refine wpQuiet_step (fun K hK => ?_); go_simp; (first | refine hK _ ?_ | refine ⟨_, fun _ _ => rfl, hK _ ?_⟩); clear hK K)
      (refine wpQuiet_step (fun K hK => ?_); go_simp; (first | refine hK _ ?_ | refine ⟨_, fun _ _ => rfl, hK _ ?_⟩); clear hK K)
      (refine wpQuiet_step (fun K hK => ?_); go_simp; (first | refine hK _ ?_ | refine ⟨_, fun _ _ => rfl, hK _ ?_⟩); clear hK K)
      (refine wpQuiet_step (fun K hK => ?_); go_simp; (first | refine hK _ ?_ | refine ⟨_, fun _ _ => rfl, hK _ ?_⟩); clear hK K)
      (refine wpQuiet_step (fun K hK => ?_); go_simp; refine ⟨.slice A k c, fun W hW => ?_, hK _ ?_⟩; (first | (rw [s1 W]; exact ⟨rfl, rfl⟩) | (rw [s1 W]; rfl) | exact ⟨rfl, rfl⟩ | rfl); clear hK K)
      (refine wpQuiet_step (fun K hK => ?_); go_simp; refine ⟨_, fun W hW => (E3.out W hW).mono fun e w' ⟨he, hb⟩ => ⟨he, hW.on hb⟩, hK _ ?_⟩; clear hK K)
      (refine wpQuiet_step (fun K hK => ?_); go_simp; (first | refine hK _ ?_ | refine ⟨_, fun _ _ => rfl, hK _ ?_⟩); clear hK K)
      (refine wpQuiet_step (fun K hK => ?_); go_simp; (first | refine hK _ ?_ | refine ⟨_, fun _ _ => rfl, hK _ ?_⟩); clear hK K)
      (refine wpQuiet_step (fun K hK => ?_); go_simp; refine ⟨.slice A2 (n - k : Nat) (c - k : Nat), fun W hW => ?_, hK _ ?_⟩; (first | (rw [s2 W]; exact ⟨rfl, rfl⟩) | (rw [s2 W]; rfl) | exact ⟨rfl, rfl⟩ | rfl); clear hK K)
      (refine wpQuiet_step (fun K hK => ?_); go_simp; refine ⟨_, fun W hW => (E4.out W hW).mono fun e w' ⟨he, hb⟩ => ⟨he, hW.on hb⟩, hK _ ?_⟩; clear hK K)
      (refine wpQuiet_step (fun K hK => ?_); go_simp; refine ⟨.bool true, fun W hW => ?_, hK _ ?_⟩; (first | (rw [q1 W]; exact ⟨rfl, rfl⟩) | (rw [q1 W]; rfl) | exact ⟨rfl, rfl⟩ | rfl); clear hK K)
      (refine wpQuiet_step (fun K hK => ?_); go_simp; (first | refine hK _ ?_ | refine ⟨_, fun _ _ => rfl, hK _ ?_⟩); clear hK K)
      (refine wpQuiet_step (fun K hK => ?_); go_simp; (first | refine hK _ ?_ | refine ⟨_, fun _ _ => rfl, hK _ ?_⟩); clear hK K)
      refine wpQuiet_nil ?_
      intro w5 Y
      have HB := Lib.hid Y.t.bel
      clear Y
      go_wp2
      go_ret
      exact ⟨rfl, HB.out⟩
  · clear P FEW
    go_enter Tryd.func4, Tryd.ntmps4
    go_wp2_with (first
      | (go_at_call 9; (with_reducible refine (HS.out _ Y.t.rt).mono ?_); rintro e w1 ⟨rfl, hb⟩; replace Y := Y.on hb; clear hb))
    all_goals
      go_ret
      exact ⟨rfl, Y.t.bel⟩

end Kdf
end Go.Proofs.YtoenkckoomfgeaaDoor
