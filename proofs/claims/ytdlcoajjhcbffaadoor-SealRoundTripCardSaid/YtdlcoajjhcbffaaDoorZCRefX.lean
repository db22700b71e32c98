/- The reference's Xor. Conditions: the text has at most 2^47 bytes; those that each theorem names. -/
import Derived.Test.YtdlcoajjhcbffaaDoorZCRefB
namespace Go.Proofs.YtdlcoajjhcbffaaDoor
open Go.RowKit
namespace Cha

theorem conv_nil (W : World) : (convert 47 9 (.slice none 0 0)).run Tryd.prog W = .ok (.string ⟨#[]⟩) W := by kernel_rfl
theorem convOwn {W : World} {base n : Nat} {v : Value} {l : List UInt8} (h : W.ownsRow base 5 1 v n (l.map bv)) (hn : l.length = n) :
    (convert 47 9 v).run Tryd.prog W = .ok (.string ⟨l.toArray⟩) W := by
  rcases h.2 with ⟨hv, h0⟩ | ⟨g, cap, cur, hv, -⟩
  · have : n = 0 := by simpa using h0
    subst this
    obtain rfl := List.eq_nil_of_length_eq_zero hn
    rw [hv]
    exact conv_nil W
  · rw [hv] at h ⊢
    exact convO h hn
theorem own_below {w w' : World} {base : Nat} {e : TypeId} {size n : Nat} {v : Value} {xs : List Value} (h : w.ownsRow base e size v n xs) (hb : Below w.heap.size w w') : w'.ownsRow base e size v n xs := by
  refine ⟨h.1, ?_⟩
  rcases h.2 with h2 | ⟨g, cap, cur, hv, hg, hh, r⟩
  · exact .inl h2
  · exact .inr ⟨g, cap, cur, hv, hg, by rw [hb.block g (Array.getElem?_eq_some_iff.1 hh).1]; exact hh, r⟩
theorem take_step {X : List UInt8} {p : Nat} {c : UInt8} (h : X[p]? = some c) : (X.take (p + 1)).map bv = (X.take p).map bv ++ [bv c] := by
  rw [List.take_add_one, h]; simp

set_option maxRecDepth 100000 in
set_option maxHeartbeats 2000000 in
theorem refXor_ok (key nonce text : List UInt8) (ctr : Nat) (w : World) (hk : key.length = 32) (hn : nonce.length = 12) (hc : ctr < 4294967296) (hx : text.length ≤ 140737488355328) :
    Calls Tryd.prog 23 #[.string ⟨key.toArray⟩, .int .u32 (ctr : Int), .string ⟨nonce.toArray⟩, .string ⟨text.toArray⟩] w (GivesE (xor key ctr nonce text) 0 w) := by
  have E1 := Lib.hid (fun W => refState_ok key nonce ctr W hk hn)
  have E2 := Lib.hid (fun c W (h : c < 4294967296) => refBlock_ok key nonce c W hk hn h)
  have HKL := Lib.hid (fun c (h : c < 4294967296) => blk_length (start_ok key nonce h))
  have HL := Lib.hid (start_ok key nonce hc).len
  obtain ⟨i0, hi, hz0, hz1, hz2⟩ := info_parts byte_info
  have hz := zero16
  have Z := Below.refl w.heap.size w
  obtain ⟨X, hX⟩ : ∃ X, X = xor key ctr nonce text := ⟨_, rfl⟩
  rw [← hX]
  have HXL := Lib.hid (show X.length = text.length by rw [hX]; exact xor_length _ _ _ _)
  have HXI := Lib.hid (fun k i x (hi : i < 64) (h : text[64 * k + i]? = some x) => show X[64 * k + i]? = some (x ^^^ (blk (start key ((ctr + k) % 4294967296) nonce)).getD i 0) by rw [hX]; exact xor_in hi h)
  have H0 := Lib.hid (Nat.mod_eq_of_lt hc)
  clear hX hk hn hc
  go_enter Tryd.func23, Tryd.ntmps23
  go_wp2_with (first
    | (go_at_call 42; (with_reducible refine (E1.out _).mono ?_); rintro e w1 ⟨rfl, hb⟩; replace Z := bcj Z hb; clear hb)
    | ((with_reducible refine at_store 63 (.tmp 10) (.tmp 22) rfl ?_); refine wpList_store_mid rfl 63 (.tmp 10) (.tmp 22) rfl w1.heap.size 0 ((start key ctr nonce).map wv).toArray rfl rfl (fresh16W w1 _ HL.out _) (i16A HL.out) (words_one _) ?_; refine gen_world (Pq := fun W => Below w.heap.size w W) (G := fun W => wpList _ _ _ _ _ W) (hasS_new Z _ HL.out _).below ?_; intro w2 Z2; clear Z))
  clear hz HL E1
  obtain ⟨n, hnl⟩ : ∃ n, n = text.length := ⟨_, rfl⟩
  have HN := Lib.hid hnl
  rw [← hnl] at hx
  clear hnl
  have ZZ := Lib.hid Z2
  clear Z2
  go_loopw [1, 3, 12] (fun cv tv ov wr => ∃ (k p : Nat), p ≤ n ∧ (p = 64 * k ∨ p = n) ∧ cv = .int .u32 (((ctr + k) % 4294967296 : Nat) : Int) ∧ tv = .string ⟨(text.drop p).toArray⟩ ∧ wr.ownsRow w2.heap.size 5 1 ov p ((X.take p).map bv) ∧ Below w2.heap.size w2 wr)
    (fun _ tv _ _ => match tv with | .string s => s.size | _ => 0)
  case atStart => exact ⟨0, 0, by omega, Or.inl rfl, by rw [Nat.add_zero, H0.out], rfl, World.ownsRow_nil _ _ _ _, Below.refl _ _⟩
  case round =>
    obtain ⟨k, p, hpn, hpk, rfl, rfl, hown, hb⟩ := hrel
    by_cases hlt : p < n
    · have hpk2 : p = 64 * k := by omega
      obtain ⟨T, hT⟩ : ∃ T, T = text.drop p := ⟨_, rfl⟩
      obtain ⟨L, hLd⟩ : ∃ L, L = n - p := ⟨_, rfl⟩
      have hTL : T.length = L := by rw [hT, List.length_drop, ← HN.out, hLd]
      have hsz := sizeS T
      rw [hTL] at hsz
      have hc2 : (ctr + k) % 4294967296 < 4294967296 := Nat.mod_lt _ (by omega)
      have hB := E2.out ((ctr + k) % 4294967296)
      have hKL := HKL.out _ hc2
      have hXI := HXI.out k
      rw [← hpk2] at hXI
      have hsu2 : ((ctr + k) % 4294967296 + 1) % 4294967296 = (ctr + (k + 1)) % 4294967296 := by omega
      generalize (ctr + k) % 4294967296 = cc at hB hKL hXI hsu2 hc2 ⊢
      generalize blk (start key cc nonce) = K at hB hKL hXI
      have hTX : ∀ i x, i < 64 → T[i]? = some x → X[p + i]? = some (x ^^^ K.getD i 0) := fun i x hi h => hXI i x hi (by rw [hT, List.getElem?_drop] at h; exact h)
      by_cases h64 : (64 : Int) ≤ (L : Int)
      · have hmL : 64 ≤ L := by omega
        have hmm : 64 = 64 ∨ 64 = L := by omega
        have hm64 : 64 ≤ 64 := by omega
        have hdr : ∀ W, (Instr.slice 9 (.string ⟨T.toArray⟩) (some (.int .i64 (64 : Int))) none none).run Tryd.prog W = .ok (.string ⟨(T.drop 64).toArray⟩) W := fun W => slice_from T 64 (by rw [hTL]; exact hmL) W
        have HDR : Hid (T.drop 64 = text.drop (p + 64)) := Lib.hid (by rw [hT, List.drop_drop])
        have HTL := Lib.hid hTL
        have HTX := Lib.hid hTX
        have HKK := Lib.hid hKL
        have HBB := Lib.hid (fun W => hB W hc2)
        have HSU := Lib.hid hsu2
        have HT := Lib.hid hT
        have y0 : (0 : Int) < (L : Int) := by omega
        have y1 : (L : Int) ≤ 140737488355328 := by omega
        have HPK := Lib.hid hpk2
        have HLD := Lib.hid hLd
        have HPN := Lib.hid hpn
        have HMM := Lib.hid hmm
        have HML := Lib.hid hmL
        have HM6 := Lib.hid hm64
        have HCC := Lib.hid hc2
        rw [← hT]
        generalize hY : T.drop 64 = Y at hdr HDR
        clear hT hLd hTL hc2 hB hKL hXI hsu2 hTX hpk hpk2 hmm hY hmL hm64
        go_wp2_with (go_at_call 43; (with_reducible refine (HBB.out _).mono ?_); rintro e w3 ⟨rfl, hb3⟩)
        have hb4 : Below w2.heap.size w2 w3 := bcj hb hb3
        have hown4 := own_below hown hb3
        clear hown hb hb3
        go_loopw [12, 16] (fun ov iv wq => ∃ (i : Nat), i ≤ 64 ∧ iv = .int .i64 (i : Int) ∧ wq.ownsRow w2.heap.size 5 1 ov (p + i) ((X.take (p + i)).map bv) ∧ Below w2.heap.size w2 wq) (fun _ iv _ => 64 - (intOf iv).toNat)
        case atStart => exact ⟨0, by omega, rfl, hown4, hb4⟩
        case round =>
          obtain ⟨i, him, rfl, hq, hbq⟩ := hrel
          clear hown4 hb4
          by_cases hil : i < 64
          · obtain ⟨x, hx0⟩ : ∃ x, T[i]? = some x := ⟨_, List.getElem?_eq_getElem (by have := HTL.out; have := HML.out; omega)⟩
            obtain ⟨y, hy0⟩ : ∃ y, K[i]? = some y := ⟨_, List.getElem?_eq_getElem (by have := HKK.out; have := HM6.out; omega)⟩
            have hXp := HTX.out i x (by have := HM6.out; omega) hx0
            rw [List.getD_eq_getElem?_getD, hy0, Option.getD_some] at hXp
            have q1 := index_at T i x hx0
            have q2 := index_at K i y hy0
            have e1 := xor8 x y
            have hst := take_step hXp
            generalize x ^^^ y = z at e1 hst
            have i1 : (0 : Int) ≤ (i : Int) := by omega
            have i2 : (i : Int) < (64 : Int) := by omega
            have i3 : (i : Int) ≤ 64 := by have := HM6.out; omega
            have hub : p + i + 1 ≤ 140737488355328 := by have := HPN.out; have := HML.out; have := HLD.out; omega
            have fin : ∀ v' w' nq, w'.ownsRow w2.heap.size 5 1 v' (p + i + 1) ((X.take (p + i)).map bv ++ [bv z]) → ((wr.drewN nq).alloc (.cells #[bv z] 5)).grownBy w' u12.ownBlock →
                ∃ (j : Nat), j ≤ 64 ∧ Value.int .i64 ((i : Int) + 1) = .int .i64 (j : Int) ∧ w'.ownsRow w2.heap.size 5 1 v' (p + j) ((X.take (p + j)).map bv) ∧ Below w2.heap.size w2 w' := by
              intro v' w' nq h1 h2
              refine ⟨i + 1, by omega, by go_num, by rw [← Nat.add_assoc, hst]; exact h1, ?_⟩
              have hb2 := belowN hbq nq
              exact (hb2.alloc hb2.size _).grown h2 (by have := hb2.size; simp at this ⊢; omega) (fun k hk => (hq.lt k hk).1)
            have FIN := Lib.hid fin
            clear fin hst hXp hx0 hy0 hil
            go_wp2
            refine QTail.movedN 8 (.tmp 12) rfl rfl (by kernel_rfl) (by kernel_rfl) (fun _ _ _ _ h => h) ?_
            simp only [List.take_succ_cons, List.take_zero, List.drop_succ_cons, List.drop_zero]
            quiet_step (fail)
            repeat (go_big_quiet_step (fail))
            refine wpQuiet_nil ?_
            intro _ hw'
            obtain ⟨nq, rfl⟩ := hw'
            have hq2 : (wr.drewN nq).ownsRow w2.heap.size 5 1 u12 (p + i) ((X.take (p + i)).map bv) := hq
            go_wp2_with (at_builtin; refine wpList_append_own _ rfl (.tmp 45) (.tmp 53) _ rfl w2.heap.size 5 i0 (.int .u8 0) 1 1 Tryd.underlying47 hi hz0 hz1 hz2 rfl (by decide) _ (p + i) _ rfl (hq2.alloc _) ⟨wr.heap.size, 0, none⟩ 1 1 [bv z] rfl rfl (fresh_one _ _ _) (one_cell _) (by unfold maxLen; omega) (by omega) (by have := hbq.size; simp; omega) ?_; intro v5 w5 ho5 hg5 _)
            go_roundw
            case rel => exact FIN.out _ _ _ ho5 hg5
            case measure => simp [intOf]; omega
          · have hieq : i = 64 := by omega
            have i1 : ¬ (i : Int) < (64 : Int) := by omega
            have HQ : Hid (wr.ownsRow w2.heap.size 5 1 u12 (p + 64) ((X.take (p + 64)).map bv)) := Lib.hid (by rw [hieq] at hq; exact hq)
            clear hieq hil him hq
            have hcc : (cc : Int) < 4294967296 := by have := HCC.out; omega
            have hw1 : ((cc : Int) + 1) % 4294967296 = (((ctr + (k + 1)) % 4294967296 : Nat) : Int) := by have := HSU.out; omega
            generalize hc3 : (ctr + (k + 1)) % 4294967296 = c3 at hw1
            have HC3 := Lib.hid hc3
            clear hc3
            go_wp2
            go_roundw
            case rel =>
              refine ⟨k + 1, p + 64, ?_, ?_, ?_, ?_, HQ.out, hbq⟩
              · have := HPN.out; have := HML.out; have := HLD.out; omega
              · have h1 := HMM.out; have h2 := HPK.out; have h3 := HLD.out; have h4 := HPN.out; omega
              · rw [HC3.out, hw1]
              · rw [HDR.out]
            case measure =>
              have h1 := HTL.out
              have h2 : Y.length = L - 64 := by rw [HDR.out, List.length_drop, ← HN.out]; have := HLD.out; omega
              have h3 := sizeS Y
              have h4 := sizeS T
              have h5 := HMM.out
              simp [h3, h4, h1, h2]
              omega
      · have hmL : L ≤ L := by omega
        have hmm : L = 64 ∨ L = L := by omega
        have hm64 : L ≤ 64 := by omega
        have hdr : ∀ W, (Instr.slice 9 (.string ⟨T.toArray⟩) (some (.int .i64 (L : Int))) none none).run Tryd.prog W = .ok (.string ⟨(T.drop L).toArray⟩) W := fun W => slice_from T L (by rw [hTL]; exact hmL) W
        have HDR : Hid (T.drop L = text.drop (p + L)) := Lib.hid (by rw [hT, List.drop_drop])
        have HTL := Lib.hid hTL
        have HTX := Lib.hid hTX
        have HKK := Lib.hid hKL
        have HBB := Lib.hid (fun W => hB W hc2)
        have HSU := Lib.hid hsu2
        have HT := Lib.hid hT
        have y0 : (0 : Int) < (L : Int) := by omega
        have y1 : (L : Int) ≤ 140737488355328 := by omega
        have HPK := Lib.hid hpk2
        have HLD := Lib.hid hLd
        have HPN := Lib.hid hpn
        have HMM := Lib.hid hmm
        have HML := Lib.hid hmL
        have HM6 := Lib.hid hm64
        have HCC := Lib.hid hc2
        rw [← hT]
        generalize hY : T.drop L = Y at hdr HDR
        clear hT hLd hTL hc2 hB hKL hXI hsu2 hTX hpk hpk2 hmm hY hmL hm64
        go_wp2_with (go_at_call 43; (with_reducible refine (HBB.out _).mono ?_); rintro e w3 ⟨rfl, hb3⟩)
        have hb4 : Below w2.heap.size w2 w3 := bcj hb hb3
        have hown4 := own_below hown hb3
        clear hown hb hb3
        go_loopw [12, 16] (fun ov iv wq => ∃ (i : Nat), i ≤ L ∧ iv = .int .i64 (i : Int) ∧ wq.ownsRow w2.heap.size 5 1 ov (p + i) ((X.take (p + i)).map bv) ∧ Below w2.heap.size w2 wq) (fun _ iv _ => L - (intOf iv).toNat)
        case atStart => exact ⟨0, by omega, rfl, hown4, hb4⟩
        case round =>
          obtain ⟨i, him, rfl, hq, hbq⟩ := hrel
          clear hown4 hb4
          by_cases hil : i < L
          · obtain ⟨x, hx0⟩ : ∃ x, T[i]? = some x := ⟨_, List.getElem?_eq_getElem (by have := HTL.out; have := HML.out; omega)⟩
            obtain ⟨y, hy0⟩ : ∃ y, K[i]? = some y := ⟨_, List.getElem?_eq_getElem (by have := HKK.out; have := HM6.out; omega)⟩
            have hXp := HTX.out i x (by have := HM6.out; omega) hx0
            rw [List.getD_eq_getElem?_getD, hy0, Option.getD_some] at hXp
            have q1 := index_at T i x hx0
            have q2 := index_at K i y hy0
            have e1 := xor8 x y
            have hst := take_step hXp
            generalize x ^^^ y = z at e1 hst
            have i1 : (0 : Int) ≤ (i : Int) := by omega
            have i2 : (i : Int) < (L : Int) := by omega
            have i3 : (i : Int) ≤ 64 := by have := HM6.out; omega
            have hub : p + i + 1 ≤ 140737488355328 := by have := HPN.out; have := HML.out; have := HLD.out; omega
            have fin : ∀ v' w' nq, w'.ownsRow w2.heap.size 5 1 v' (p + i + 1) ((X.take (p + i)).map bv ++ [bv z]) → ((wr.drewN nq).alloc (.cells #[bv z] 5)).grownBy w' u12.ownBlock →
                ∃ (j : Nat), j ≤ L ∧ Value.int .i64 ((i : Int) + 1) = .int .i64 (j : Int) ∧ w'.ownsRow w2.heap.size 5 1 v' (p + j) ((X.take (p + j)).map bv) ∧ Below w2.heap.size w2 w' := by
              intro v' w' nq h1 h2
              refine ⟨i + 1, by omega, by go_num, by rw [← Nat.add_assoc, hst]; exact h1, ?_⟩
              have hb2 := belowN hbq nq
              exact (hb2.alloc hb2.size _).grown h2 (by have := hb2.size; simp at this ⊢; omega) (fun k hk => (hq.lt k hk).1)
            have FIN := Lib.hid fin
            clear fin hst hXp hx0 hy0 hil
            go_wp2
            refine QTail.movedN 8 (.tmp 12) rfl rfl (by kernel_rfl) (by kernel_rfl) (fun _ _ _ _ h => h) ?_
            simp only [List.take_succ_cons, List.take_zero, List.drop_succ_cons, List.drop_zero]
            quiet_step (fail)
            repeat (go_big_quiet_step (fail))
            refine wpQuiet_nil ?_
            intro _ hw'
            obtain ⟨nq, rfl⟩ := hw'
            have hq2 : (wr.drewN nq).ownsRow w2.heap.size 5 1 u12 (p + i) ((X.take (p + i)).map bv) := hq
            go_wp2_with (at_builtin; refine wpList_append_own _ rfl (.tmp 45) (.tmp 53) _ rfl w2.heap.size 5 i0 (.int .u8 0) 1 1 Tryd.underlying47 hi hz0 hz1 hz2 rfl (by decide) _ (p + i) _ rfl (hq2.alloc _) ⟨wr.heap.size, 0, none⟩ 1 1 [bv z] rfl rfl (fresh_one _ _ _) (one_cell _) (by unfold maxLen; omega) (by omega) (by have := hbq.size; simp; omega) ?_; intro v5 w5 ho5 hg5 _)
            go_roundw
            case rel => exact FIN.out _ _ _ ho5 hg5
            case measure => simp [intOf]; omega
          · have hieq : i = L := by omega
            have i1 : ¬ (i : Int) < (L : Int) := by omega
            have HQ : Hid (wr.ownsRow w2.heap.size 5 1 u12 (p + L) ((X.take (p + L)).map bv)) := Lib.hid (by rw [hieq] at hq; exact hq)
            clear hieq hil him hq
            have hcc : (cc : Int) < 4294967296 := by have := HCC.out; omega
            have hw1 : ((cc : Int) + 1) % 4294967296 = (((ctr + (k + 1)) % 4294967296 : Nat) : Int) := by have := HSU.out; omega
            generalize hc3 : (ctr + (k + 1)) % 4294967296 = c3 at hw1
            have HC3 := Lib.hid hc3
            clear hc3
            go_wp2
            go_roundw
            case rel =>
              refine ⟨k + 1, p + L, ?_, ?_, ?_, ?_, HQ.out, hbq⟩
              · have := HPN.out; have := HML.out; have := HLD.out; omega
              · have h1 := HMM.out; have h2 := HPK.out; have h3 := HLD.out; have h4 := HPN.out; omega
              · rw [HC3.out, hw1]
              · rw [HDR.out]
            case measure =>
              have h1 := HTL.out
              have h2 : Y.length = L - L := by rw [HDR.out, List.length_drop, ← HN.out]; have := HLD.out; omega
              have h3 := sizeS Y
              have h4 := sizeS T
              have h5 := HMM.out
              simp [h3, h4, h1, h2]
              omega
    · obtain rfl : p = n := by omega
      have hdn : text.drop p = [] := List.drop_of_length_le (by rw [← HN.out]; exact Nat.le_refl _)
      rw [hdn]
      have hcv := convOwn (l := X) (by rw [List.take_of_length_le (by rw [HXL.out, ← HN.out]; exact Nat.le_refl _)] at hown; exact hown) (by rw [HXL.out, ← HN.out])
      have HBE := Lib.hid (bcj ZZ.out hb)
      clear hown hb hlt hpn hpk hdn
      go_wp2
      go_ret2
      exact ⟨rfl, HBE.out⟩

set_option maxRecDepth 100000 in
set_option maxHeartbeats 1000000 in
theorem refXor_err (key nonce text : List UInt8) (ctr : Nat) (w : World) (h : ¬ (key.length = 32 ∧ nonce.length = 12)) :
    Calls Tryd.prog 23 #[.string ⟨key.toArray⟩, .int .u32 (ctr : Int), .string ⟨nonce.toArray⟩, .string ⟨text.toArray⟩] w (GivesE [] 1 w) := by
  have E1 := Lib.hid (fun W => refState_err key nonce ctr W h)
  have hz := zero16
  have Z := Below.refl w.heap.size w
  clear h
  go_enter Tryd.func23, Tryd.ntmps23
  go_wp2_with (first
    | (go_at_call 42; (with_reducible refine (E1.out _).mono ?_); rintro e w1 ⟨rfl, hb⟩; replace Z := bcj Z hb; clear hb)
    | ((with_reducible refine at_store 63 (.tmp 10) (.tmp 22) rfl ?_); refine wpList_store_mid rfl 63 (.tmp 10) (.tmp 22) rfl w1.heap.size 0 z16 rfl rfl (fresh16W w1 zN rfl _) (by kernel_rfl) (words_one zN) ?_; refine gen_world (Pq := fun W => HasS w W w1.heap.size zN) (G := fun W => wpList _ _ _ _ _ W) (hasS_new Z zN rfl _) ?_; intro w2 S2; clear Z))
  go_ret2
  exact ⟨rfl, S2.below⟩

end Cha
end Go.Proofs.YtdlcoajjhcbffaaDoor
