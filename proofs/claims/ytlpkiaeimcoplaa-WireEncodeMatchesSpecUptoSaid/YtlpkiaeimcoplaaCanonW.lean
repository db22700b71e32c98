/- The walk of the statement that what is decoded has the consumed bytes as its encoding: the whole function. -/
import Derived.Test.YtlpkiaeimcoplaaCanon
namespace Go.Proofs.Ytlpkiaeimcoplaa
open Go.RowKit
namespace Wire

section
variable {bs : List UInt8} {n c : Nat} {A : Option Addr}

theorem gI (W : World) (h : Lies W W.heap.size 1 A n c (bs.map bv)) : Calls Try.prog 24 #[.slice A n c] W fun e w' => ∃ (v : Int) (u x : Nat), e = .returned (.tuple #[.int .i64 v, .int .i64 (u : Int), .int .i64 (x : Int)]) ∧ W = w' ∧
    (-9223372036854775808 ≤ v ∧ v ≤ 9223372036854775807) ∧ x ≤ 10 ∧ Cons bs (enc v) u x := by
  cases hd : dec bs with
  | error x =>
    have hx := dec_err hd
    exact (get_err h hd).mono fun e w' ⟨he, hw⟩ => ⟨0, 0, x, he, hw, by omega, by omega, .inl (by omega)⟩
  | ok p =>
    obtain ⟨v, u⟩ := p
    exact (get_ok h hd).mono fun e w' ⟨he, hw⟩ => ⟨v, u, 0, he, hw, (dec_ok hd).2.2, by omega, .inr ⟨rfl, dec_take hd, (dec_used hd).2.2⟩⟩

theorem gS (W : World) (h : Lies W W.heap.size 1 A n c (bs.map bv)) (hn : bs.length ≤ 2000) : Calls Try.prog 26 #[.slice A n c] W fun e w' => ∃ (s : List UInt8) (u x : Nat), e = .returned (.tuple #[.string ⟨s.toArray⟩, .int .i64 (u : Int), .int .i64 (x : Int)]) ∧ W = w' ∧
    (encStr s).length ≤ 20000 ∧ x ≤ 10 ∧ Cons bs (encStr s) u x := by
  cases hd : decStr bs with
  | error x =>
    have hx := decStr_err hd
    exact (str_err h hd).mono fun e w' ⟨he, hw⟩ => ⟨[], 0, x, he, hw, by have := encStr_le [] (by simp); simp at this ⊢; omega, by omega, .inl (by omega)⟩
  | ok p =>
    obtain ⟨s, u⟩ := p
    obtain ⟨h1, h2, h3⟩ := decStr_take hd
    exact (str_ok h hd).mono fun e w' ⟨he, hw⟩ => ⟨s, u, 0, he, hw, by have := encStr_le s (by omega); omega, by omega, .inr ⟨rfl, h1, h2⟩⟩

theorem enc_none {α : Type} (f : α → List UInt8) : (encList f []).length ≤ 20000 := by
  have := enc_length_le (n := 0) (by omega)
  simp only [encList, List.length_nil, List.flatMap_nil, List.append_nil]
  have e : ((0 : Nat) : Int) = 0 := rfl
  rw [e]; omega

theorem decList_err {α : Type} {g : List UInt8 → Except Nat (α × Nat)} {size : Nat} {b : List UInt8} {e : Nat} (hg : ∀ c e, g c = .error e → e = 5 ∨ e = 6) (h : decList g size b = .error e) : e = 5 ∨ e = 6 := by
  have hm : ∀ n at_ e, decMany g b n at_ = .error e → e = 5 ∨ e = 6 := by
    intro n
    induction n with
    | zero => intro at_ e h; cases h
    | succ n ih =>
      intro at_ e h
      simp only [decMany] at h
      cases hv : g (b.drop at_) with
      | error e' => rw [hv] at h; cases h; exact hg _ _ hv
      | ok p =>
        obtain ⟨v, k⟩ := p
        rw [hv] at h
        simp only at h
        cases hr : decMany g b n (at_ + k) with
        | error e' => rw [hr] at h; cases h; exact ih _ _ hr
        | ok q => rw [hr] at h; cases h
  unfold decList at h
  cases hd : declen size b with
  | error e' => rw [hd] at h; cases h; exact declen_err hd
  | ok p => rw [hd] at h; exact hm _ _ _ h

theorem gL (W : World) (h : Lies W W.heap.size 1 A n c (bs.map bv)) (hn : bs.length ≤ 2000) : Calls Try.prog 28 #[.slice A n c] W fun e w' => ∃ (E : Option Addr) (l : List Int) (u x : Nat), e = .returned (.tuple #[.slice E l.length l.length, .int .i64 (u : Int), .int .i64 (x : Int)]) ∧ Below W.heap.size W w' ∧
    Lies w' w'.heap.size 1 E l.length l.length (l.map iv) ∧ (∀ y ∈ l, -9223372036854775808 ≤ y ∧ y ≤ 9223372036854775807) ∧ (encList enc l).length ≤ 20000 ∧ x ≤ 10 ∧ Cons bs (encList enc l) u x := by
  have hb : bs.length = n := by have := h.len; simpa using this
  have hc := getInts_any bs n c A W h (by omega)
  cases hd : decList dec 1 bs with
  | error x =>
    rw [hd] at hc
    have hx := decList_err (fun _ _ => dec_err) hd
    exact hc.mono fun e w' ⟨he, hw⟩ => ⟨none, [], 0, x, he, hw, lies_none _ _ _, by simp, enc_none enc, by omega, .inl (by omega)⟩
  | ok p =>
    obtain ⟨l, u⟩ := p
    rw [hd] at hc
    obtain ⟨h1, h2, k, h3, h4, h5⟩ := decList_take (f := enc) (fun c v k h => dec_take h) hd
    have hu := decMany_le (fun c v k h => (dec_used h).2.2) _ _ _ _ h4 h3
    refine hc.mono fun e w' ⟨g, he, ho, hw⟩ => ⟨some ⟨g, 0, none⟩, l, u, 0, he, hw, lies_own ho, decMany_all (P := fun y => -9223372036854775808 ≤ y ∧ y ≤ 9223372036854775807) (fun c v k h => (dec_ok h).2.2) _ _ _ _ h3, ?_, by omega, .inr ⟨rfl, h1, hu⟩⟩
    rw [h1, List.length_take]; omega

theorem gT (W : World) (h : Lies W W.heap.size 1 A n c (bs.map bv)) (hn : bs.length ≤ 2000) : Calls Try.prog 31 #[.slice A n c] W fun e w' => ∃ (E : Option Addr) (l : List (List UInt8)) (u x : Nat), e = .returned (.tuple #[.slice E l.length l.length, .int .i64 (u : Int), .int .i64 (x : Int)]) ∧ Below W.heap.size W w' ∧
    Lies w' w'.heap.size 1 E l.length l.length (l.map sv) ∧ (encList encStr l).length ≤ 20000 ∧ x ≤ 10 ∧ Cons bs (encList encStr l) u x := by
  have hb : bs.length = n := by have := h.len; simpa using this
  have hc := getStrings_any bs n c A W h (by omega)
  cases hd : decList decStr 1 bs with
  | error x =>
    rw [hd] at hc
    have hx := decList_err (fun _ _ => decStr_err) hd
    exact hc.mono fun e w' ⟨he, hw⟩ => ⟨none, [], 0, x, he, hw, lies_none _ _ _, enc_none encStr, by omega, .inl (by omega)⟩
  | ok p =>
    obtain ⟨l, u⟩ := p
    rw [hd] at hc
    obtain ⟨h1, h2, k, h3, h4, h5⟩ := decList_take (f := encStr) (fun c v k h => (decStr_take h).1) hd
    have hu := decMany_le (fun c v k h => (decStr_take h).2.1) _ _ _ _ h4 h3
    refine hc.mono fun e w' ⟨g, he, ho, hw⟩ => ⟨some ⟨g, 0, none⟩, l, u, 0, he, hw, lies_own ho, ?_, by omega, .inr ⟨rfl, h1, hu⟩⟩
    rw [h1, List.length_take]; omega

theorem gD (W : World) (h : Lies W W.heap.size 1 A n c (bs.map bv)) (hn : bs.length ≤ 2000) : Calls Try.prog 34 #[.slice A n c] W fun e w' => ∃ (E : Option Addr) (l : List (List UInt8)) (u x : Nat), e = .returned (.tuple #[.slice E l.length l.length, .int .i64 (u : Int), .int .i64 (x : Int)]) ∧ Below W.heap.size W w' ∧
    Lies w' w'.heap.size 16 E l.length l.length (digCells l) ∧ (∀ d ∈ l, d.length = 16) ∧ (encList (fun d => d) l).length ≤ 20000 ∧ x ≤ 10 ∧ Cons bs (encList (fun d => d) l) u x := by
  have hb : bs.length = n := by have := h.len; simpa using this
  have hc := getDigests_any bs n c A W h (by omega)
  cases hd : decList decDig 16 bs with
  | error x =>
    rw [hd] at hc
    have hx := decList_err (fun _ _ (h : _ = Except.error _) => by cases h) hd
    exact hc.mono fun e w' ⟨he, hw⟩ => ⟨none, [], 0, x, he, hw, lies_none _ _ _, by simp, enc_none _, by omega, .inl (by omega)⟩
  | ok p =>
    obtain ⟨l, u⟩ := p
    rw [hd] at hc
    obtain ⟨h1, h2, k, h3, h4, h5⟩ := decList_take (f := fun d => d) (fun c v k h => by simp only [decDig, Except.ok.injEq, Prod.mk.injEq] at h; rw [← h.1, ← h.2]) hd
    have h6 : k + 16 * l.length ≤ bs.length := by omega
    obtain ⟨h7, h8⟩ := decMany_dig bs l.length k l u h6 h3
    refine hc.mono fun e w' ⟨g, he, ho, hw⟩ => ⟨some ⟨g, 0, none⟩, l, u, 0, he, hw, lies_own ho, h8, ?_, by omega, .inr ⟨rfl, h1, by omega⟩⟩
    rw [h1, List.length_take]; omega
end

theorem made_row {W : World} {n : Nat} {l : List UInt8} {e : Ending} {w' : World} (h : Made W n l e w') : ∃ g cap, e = .returned (.slice (some ⟨g, 0, none⟩) n cap) ∧ Below W.heap.size W w' ∧ Lies w' w'.heap.size 1 (some ⟨g, 0, none⟩) n cap (l.map bv) := by
  obtain ⟨g, cap, he, ho, hb⟩ := h
  exact ⟨g, cap, he, hb, lies_own ho⟩

theorem bytes_raw (s : List UInt8) (W : World) (h : (encStr s).length ≤ 20000) : Calls Try.prog 16 #[.string ⟨s.toArray⟩] W (Made W (encStr s).length (encStr s)) := bytes_any s W (by omega)
theorem few20 {k : Nat} (h : k ≤ 20000) : k ≤ 140737488355328 := by omega

set_option maxRecDepth 100000 in
set_option maxHeartbeats 4000000 in
theorem canon_any (bs : List UInt8) (n c : Nat) (A : Option Addr) (w : World) (hl : Lies w w.heap.size 1 A n c (bs.map bv)) :
    Calls Try.prog 7 #[.slice A n c] w (Yes w) := by
  have hmost : c ≤ 9223372036854775807 := by have := hl.most; unfold maxLen at this; omega
  have hle := hl.le
  have hmf : ∀ (fn : Fn) (first cap : Array Value) (w : World), (Instr.makeFunc fn first cap).run Try.prog w = .ok (.func fn first cap) w := fun _ _ _ _ => rfl
  have hx := cell_new w (.slice A n c) 28
  by_cases h2 : (2000 : Int) < n
  · go_enter Try.func7, Try.ntmps7
    go_wp2_with (go_at_call 12; refine (sanity_any _).mono ?_; rintro e w1 ⟨rfl, hb⟩)
    go_ret
    exact ⟨rfl, bc (b1 _ _) hb⟩
  · have hbl : bs.length = n := by have := hl.len; simpa using this
    have hbs : bs.length ≤ 2000 := by omega
    have hnn : n ≤ 2000 := by omega
    obtain ⟨w0, hw0⟩ : ∃ w0, w0 = w.alloc (.cells #[.slice A n c] 28) := ⟨_, rfl⟩
    have hlt : w.heap.size < w0.heap.size := by rw [hw0, size_alloc]; omega
    have zw : Below w.heap.size w w0 := by rw [hw0]; exact b1 _ _
    have bl : Lies w0 w0.heap.size 1 A n c (bs.map bv) := hl.on zw
    rw [← hw0] at hx
    have zb := Below.refl w0.heap.size w0
    have keep : ∀ W : World, Below w0.heap.size w0 W → W.cell? ⟨w.heap.size, 0, none⟩ = some (.slice A n c) := fun W hb => (hb.cell (p := ⟨w.heap.size, 0, none⟩) hlt).trans hx
    have KEEP := Lib.hid keep; clear keep
    have c1 : Calls Try.prog 24 #[.slice A n c] (w.alloc (.cells #[.slice A n c] 28)) fun e w' => ∃ (v : Int) (u x : Nat), e = .returned (.tuple #[.int .i64 v, .int .i64 (u : Int), .int .i64 (x : Int)]) ∧ w0 = w' ∧
        (-9223372036854775808 ≤ v ∧ v ≤ 9223372036854775807) ∧ x ≤ 10 ∧ Cons bs (enc v) u x := by rw [← hw0]; exact gI w0 bl
    have C1 := Lib.hid c1; clear c1
    have HBL := Lib.hid hbl; clear hbl
    have HW0 := Lib.hid hw0; clear hw0
    go_enter Try.func7, Try.ntmps7
    go_wp2_with (first
      | (go_at_call 24; (with_reducible refine C1.out.mono ?_); rintro e w1 ⟨vI, uI, xI, rfl, rfl, rI, xIl, cI⟩)
      | (go_at_call 26; (with_reducible refine (gS w0 bl hbs).mono ?_); rintro e w2 ⟨sS, uS, xS, rfl, rfl, lS, xSl, cS⟩)
      | (go_at_call 28; (with_reducible refine (gL _ bl hbs).mono ?_); rintro e w3 ⟨E3, l3, u3, x3, rfl, hb, r3, rg3, ln3, xl3, c3⟩; replace zb := bc zb hb; have hx3 := KEEP.out _ zb; replace bl := bl.on hb; clear hb)
      | (go_at_call 31; (with_reducible refine (gT _ bl hbs).mono ?_); rintro e w4 ⟨E4, l4, u4, x4, rfl, hb, r4, ln4, xl4, c4⟩; replace zb := bc zb hb; have hx4 := KEEP.out _ zb; replace bl := bl.on hb; replace r3 := r3.on hb; clear hb)
      | (go_at_call 34; (with_reducible refine (gD _ bl hbs).mono ?_); rintro e w5 ⟨E5, l5, u5, x5, rfl, hb, r5, d5, ln5, xl5, c5⟩; replace zb := bc zb hb; have hx5 := KEEP.out _ zb; replace bl := bl.on hb; replace r3 := r3.on hb; replace r4 := r4.on hb; clear hb)
      | (go_at_call 12; (with_reducible refine (sanity_any _).mono ?_); rintro e w6 ⟨rfl, hb⟩; replace zb := bc zb hb; have hx6 := KEEP.out _ zb; replace bl := bl.on hb; replace r3 := r3.on hb; replace r4 := r4.on hb; replace r5 := r5.on hb; clear hb)
      | (go_at_call 14; (with_reducible refine (int_any _ _ rI).mono ?_); rintro e w7 hM; obtain ⟨g7, cap7, rfl, hb, q7⟩ := made_row hM; clear hM; replace zb := bc zb hb; have hx7 := KEEP.out _ zb; replace bl := bl.on hb; replace r3 := r3.on hb; replace r4 := r4.on hb; replace r5 := r5.on hb; clear hb)
      | (go_at_call 37; (with_reducible refine (is_any bs _ n c _ _ _ _ _ _ A _ bl q7 hx7 cI hnn xIl).mono ?_); rintro e w8 ⟨rfl, hb⟩; replace zb := bc zb hb; have hx8 := KEEP.out _ zb; replace bl := bl.on hb; replace r3 := r3.on hb; replace r4 := r4.on hb; replace r5 := r5.on hb; clear hb)
      | (go_at_call 16; (with_reducible refine (bytes_raw _ _ lS).mono ?_); rintro e w9 hM; obtain ⟨g9, cap9, rfl, hb, q9⟩ := made_row hM; clear hM; replace zb := bc zb hb; have hx9 := KEEP.out _ zb; replace bl := bl.on hb; replace r3 := r3.on hb; replace r4 := r4.on hb; replace r5 := r5.on hb; clear hb)
      | (go_at_call 37; (with_reducible refine (is_any bs _ n c _ _ _ _ _ _ A _ bl q9 hx9 cS hnn xSl).mono ?_); rintro e w10 ⟨rfl, hb⟩; replace zb := bc zb hb; have hx10 := KEEP.out _ zb; replace bl := bl.on hb; replace r3 := r3.on hb; replace r4 := r4.on hb; replace r5 := r5.on hb; clear hb)
      | (go_at_call 18; (with_reducible refine (ints_any _ _ _ _ _ r3 (few20 ln3) rg3).mono ?_); rintro e w11 hM; obtain ⟨g11, cap11, rfl, hb, q11⟩ := made_row hM; clear hM; replace zb := bc zb hb; have hx11 := KEEP.out _ zb; replace bl := bl.on hb; replace r4 := r4.on hb; replace r5 := r5.on hb; clear hb)
      | (go_at_call 37; (with_reducible refine (is_any bs _ n c _ _ _ _ _ _ A _ bl q11 hx11 c3 hnn xl3).mono ?_); rintro e w12 ⟨rfl, hb⟩; replace zb := bc zb hb; have hx12 := KEEP.out _ zb; replace bl := bl.on hb; replace r4 := r4.on hb; replace r5 := r5.on hb; clear hb)
      | (go_at_call 20; (with_reducible refine (strings_any _ _ _ _ _ r4 (few20 ln4)).mono ?_); rintro e w13 hM; obtain ⟨g13, cap13, rfl, hb, q13⟩ := made_row hM; clear hM; replace zb := bc zb hb; have hx13 := KEEP.out _ zb; replace bl := bl.on hb; replace r5 := r5.on hb; clear hb)
      | (go_at_call 37; (with_reducible refine (is_any bs _ n c _ _ _ _ _ _ A _ bl q13 hx13 c4 hnn xl4).mono ?_); rintro e w14 ⟨rfl, hb⟩; replace zb := bc zb hb; have hx14 := KEEP.out _ zb; replace bl := bl.on hb; replace r5 := r5.on hb; clear hb)
      | (go_at_call 22; (with_reducible refine (digests_any _ _ _ _ _ r5 rfl d5 (few20 ln5)).mono ?_); rintro e w15 hM; obtain ⟨g15, cap15, rfl, hb, q15⟩ := made_row hM; clear hM; replace zb := bc zb hb; have hx15 := KEEP.out _ zb; replace bl := bl.on hb; clear hb)
      | (go_at_call 37; (with_reducible refine (is_any bs _ n c _ _ _ _ _ _ A _ bl q15 hx15 c5 hnn xl5).mono ?_); rintro e w16 ⟨rfl, hb⟩; replace zb := bc zb hb; have hx16 := KEEP.out _ zb; replace bl := bl.on hb; clear hb))
    go_ret
    exact ⟨rfl, bc zw zb⟩

end Wire
end Go.Proofs.Ytlpkiaeimcoplaa
