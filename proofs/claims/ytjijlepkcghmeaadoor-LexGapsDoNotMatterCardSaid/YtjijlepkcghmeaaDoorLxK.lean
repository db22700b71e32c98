/- LexJoinKeepsTokens walked. Conditions: what the package answers, what came in. -/
import Derived.Test.YtjijlepkcghmeaaDoorLxL
namespace Go.Proofs.YtjijlepkcghmeaaDoor
open Go.RowKit
namespace Lx
open Wire (bv sv Lies)

theorem sameK_keys : ∀ (l m : List Tok), m.map Tok.key = l.map Tok.key → sameK false (l.map Tok.ti) (m.map Tok.ti) = true
  | [], [], _ => rfl
  | [], _ :: _, h => by cases h
  | _ :: _, [], h => by cases h
  | x :: l, y :: m, h => by
    simp only [List.map_cons, List.cons.injEq] at h
    have h1 : y.kind = x.kind ∧ y.text = x.text ∧ y.n = x.n := by simpa [Tok.key] using h.1
    rw [List.map_cons, List.map_cons, sameK, sameK_keys l m h.2, Bool.and_true]
    simp [eqT, Tok.ti, h1.1, h1.2.1, h1.2.2]
theorem cons_bad {t : Tok} {r : Res} {p e : Nat} (h : r.cons t = .bad p e) : r = .bad p e := by
  cases r with
  | ok m => cases h
  | bad p e => exact h
theorem toks_err : ∀ (f i : Nat) (s : List UInt8) (p e : Nat), s.length < f → toks i s = .bad p e → e = 2 ∨ e = 3
  | 0, _, _, _, _, h, _ => absurd h (Nat.not_lt_zero _)
  | f + 1, i, s, p, e, hf, h => by
    rw [toks_eq] at h
    split at h
    · cases h
    · split at h
      · cases h; exact .inr rfl
      · rename_i k m n h1
        have hm := one_len h1
        have hsl := skip_le false s
        split at h
        · cases h; exact .inl rfl
        · exact toks_err f _ _ p e (by rw [List.length_drop]; omega) (cons_bad h)
theorem lie_texts : ∀ (l : List Tok) (i : Nat) (s : List UInt8), Lie i s l → l.length ≤ s.length ∧ ∀ t ∈ l, t.text.length ≤ s.length
  | [], i, s, _ => ⟨Nat.zero_le _, fun t h => by cases h⟩
  | t :: l, i, s, h => by
    obtain ⟨h1, h2, h3, h4, h5, h6⟩ := h
    have ih := lie_texts l _ _ h6
    rw [List.length_drop] at ih
    refine ⟨by rw [List.length_cons]; omega, fun u hu => ?_⟩
    rcases List.mem_cons.1 hu with rfl | hu
    · omega
    · have := ih.2 u hu; omega
theorem read_short {t : List UInt8} (h : t.length ≤ 4000) : read t = toks 0 t := by unfold read; rw [if_neg (by omega)]

set_option maxRecDepth 100000 in
set_option maxHeartbeats 4000000 in
theorem law_keeps {T : World → Prop} (pk : Pkg T) (t : List UInt8) (w : World) (ht : T w) : Calls Tryd.prog 7 #[.string ⟨t.toArray⟩] w (GivesB true w) := by
  have Z := Below.refl w.heap.size w
  have hs := size_of t
  have HSA := Lib.hid (fun W (h : Below w.heap.size w W) => sanity_any pk W (pk.on _ _ h ht))
  by_cases hl : 2000 < t.length
  · have z0 : (2000 : Int) < (t.length : Int) := by omega
    generalize (⟨t.toArray⟩ : ByteArray) = X at *
    clear hl ht
    go_enter Tryd.func7, Tryd.ntmps7
    go_wp2_with (first
      | (go_at_call 9; (with_reducible refine (HSA.out _ Z).mono ?_); rintro e w1 ⟨rfl, hb⟩; replace Z := Wire.bc Z hb; clear hb))
    go_ret
    exact ⟨rfl, Z⟩
  have z0 : ¬ (2000 : Int) < (t.length : Int) := by omega
  have HT := Lib.hid (fun W (h : Below w.heap.size w W) => pkgRead pk t W (by omega) (pk.on _ _ h ht))
  have HTT := Lib.hid (fun W (h : Below w.heap.size w W) => pk.on _ _ h ht)
  rw [read_short (by omega)] at HT
  cases hr : toks 0 t with
  | bad p q =>
    rw [hr] at HT
    have hq := toks_err (t.length + 1) 0 t p q (by omega) hr
    have z1 : ¬ (q : Int) = 0 := by omega
    generalize (⟨t.toArray⟩ : ByteArray) = X at *
    clear hl ht hr hq HTT
    simp only [Res.at_, Res.err, Res.list] at HT
    go_enter Tryd.func7, Tryd.ntmps7
    go_wp2_with (first
      | (go_at_call 9; (with_reducible refine (HSA.out _ Z).mono ?_); rintro e w1 ⟨rfl, hb⟩; replace Z := Wire.bc Z hb; clear hb)
      | (go_at_call 10; (with_reducible refine (HT.out _ Z).mono ?_); rintro e w2 ⟨A, n, c, rfl, ho, hb⟩; replace Z := Wire.bc Z hb; clear ho hb))
    go_ret
    exact ⟨rfl, Z⟩
  | ok l =>
    rw [hr] at HT
    have hlie := toks_lie (t.length + 1) 0 t l (by omega) hr
    obtain ⟨hl1, hl2⟩ := lie_texts l 0 t hlie
    obtain ⟨m, hm1, hm2⟩ := toks_join l 0 (toks_good (t.length + 1) 0 t l (by omega) hr)
    have hjm : (l.map Tok.ti).map (·.text) = l.map (·.text) := by rw [List.map_map]; rfl
    have HJ := Lib.hid (fun W base A n c (h : Below w.heap.size w W) (ho : OwnK W base (.slice A n c) n (l.map Tok.ti)) => show Calls Tryd.prog 15 #[.slice A n c] W (GivesS (Lx.join (l.map (·.text))) W) by
      obtain ⟨A', c', e, hl⟩ := ho.form
      cases e
      have hn := ho.len
      rw [List.length_map] at hn
      have := pk.join (l.map Tok.ti) n c A W hl (by omega) (fun u hu => by
        obtain ⟨v, hv, rfl⟩ := List.mem_map.1 hu
        have := hl2 v hv
        show v.text.length ≤ 4200
        omega) (pk.on _ _ h ht)
      rwa [hjm] at this)
    have HSM := Lib.hid (fun W b1 b2 A B n c k d (h1 : OwnK W b1 (.slice A n c) n (l.map Tok.ti)) (h2 : OwnK W b2 (.slice B k d) k (m.map Tok.ti)) => (sameK_keys l m hm2) ▸ same_own (W := W) false h1 h2)
    generalize Lx.join (l.map (·.text)) = J at *
    have hjs := size_of J
    by_cases hJ : 4000 < J.length
    · have z1 : (4000 : Int) < (J.length : Int) := by omega
      generalize (⟨t.toArray⟩ : ByteArray) = X at *
      unfold GivesS at HJ
      generalize (⟨J.toArray⟩ : ByteArray) = X2 at *
      simp only [Res.at_, Res.err, Res.list] at HT
      clear hl ht hr hlie hl1 hl2 hm1 hm2 hjm hJ HTT HSM
      go_enter Tryd.func7, Tryd.ntmps7
      go_wp2_with (first
        | (go_at_call 9; (with_reducible refine (HSA.out _ Z).mono ?_); rintro e w1 ⟨rfl, hb⟩; replace Z := Wire.bc Z hb; clear hb)
        | (go_at_call 10; (with_reducible refine (HT.out _ Z).mono ?_); rintro e w2 ⟨A, n, c, rfl, ho, hb⟩; replace Z := Wire.bc Z hb; have O1 := Lib.hid ho; clear ho hb)
        | (go_at_call 15; (with_reducible refine (HJ.out _ _ _ _ _ Z O1.out).mono ?_); rintro e w3 ⟨rfl, hb⟩; replace Z := Wire.bc Z hb; clear hb))
      go_ret
      exact ⟨rfl, Z⟩
    · have z1 : ¬ (4000 : Int) < (J.length : Int) := by omega
      have HT2 := Lib.hid (fun W (h : Below w.heap.size w W) => pkgRead pk J W (by omega) (pk.on _ _ h ht))
      rw [read_short (by omega), hm1] at HT2
      generalize (⟨t.toArray⟩ : ByteArray) = X at *
      unfold GivesS at HJ
      generalize (⟨J.toArray⟩ : ByteArray) = X2 at *
      simp only [Res.at_, Res.err, Res.list] at HT HT2
      clear hl ht hr hlie hl1 hl2 hm1 hm2 hjm hJ HTT
      go_enter Tryd.func7, Tryd.ntmps7
      go_wp2_with (first
        | (go_at_call 9; (with_reducible refine (HSA.out _ Z).mono ?_); rintro e w1 ⟨rfl, hb⟩; replace Z := Wire.bc Z hb; clear hb)
        | (go_at_call 10; (with_reducible refine (HT.out _ Z).mono ?_); rintro e w2 ⟨A, n, c, rfl, ho, hb⟩; replace Z := Wire.bc Z hb; have O1 := Lib.hid ho; clear ho hb)
        | (go_at_call 15; (with_reducible refine (HJ.out _ _ _ _ _ Z O1.out).mono ?_); rintro e w3 ⟨rfl, hb⟩; replace O1 := Lib.hid (O1.out.on hb); replace Z := Wire.bc Z hb; clear hb)
        | (go_at_call 10; (with_reducible refine (HT2.out _ Z).mono ?_); rintro e w4 ⟨B, k, d, rfl, ho, hb⟩; replace Z := Wire.bc Z hb; replace O1 := Lib.hid (O1.out.on hb); have O2 := Lib.hid ho; clear ho hb)
        | (go_at_call 12; (with_reducible refine (HSM.out _ _ _ _ _ _ _ _ _ O1.out O2.out).mono ?_); rintro e w5 ⟨rfl, hb⟩; replace Z := Wire.bc Z hb; clear hb))
      go_ret
      exact ⟨rfl, Z⟩
end Lx
end Go.Proofs.YtjijlepkcghmeaaDoor
