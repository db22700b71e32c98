/- A text XORed with blocks: Xor, of the package cipher. Conditions: the text has at most 2^47 bytes; those that each theorem names. -/
import Derived.Test.YtdlcoajjhcbffaaDoorZCXorB
namespace Go.Proofs.YtdlcoajjhcbffaaDoor
open Go.RowKit
namespace Cha

theorem byteSz (w : World) : (sizeOf (Tryd.prog.elem 47)).run Tryd.prog w = .ok 1 w := by kernel_rfl
theorem part_of (go n c p q m : Nat) (hq : q = p + m) (hqn : q ≤ n) (hc : n ≤ c) (hp : p < c) (W : World) :
    (Instr.slice 47 (.slice (some ⟨go, 0, none⟩) n c) (some (.int .i64 (p : Int))) (some (.int .i64 (q : Int))) none).run Tryd.prog W = .ok (.slice (some ⟨go, p, none⟩) m (c - p)) W := by
  rw [run_slice_lh (P := Tryd.prog) (w := W) 47 (some ⟨go, 0, none⟩) n c (by kernel_rfl) .i64 .i64 (p : Int) (q : Int) (by omega) (by omega) (by omega), byteSz]
  have h1 : ¬ c = p := by omega
  have h2 : q - p = m := by omega
  simp [Result.andThen, sliced, h1, h2, Addr.add]
  exact fun h => h.symm

set_option maxRecDepth 100000 in
set_option maxHeartbeats 1000000 in
theorem xor_ok (key nonce text : List UInt8) (ctr : Nat) (w : World) (hk : key.length = 32) (hn : nonce.length = 12) (hc : ctr < 4294967296) (hx : text.length ≤ 140737488355328) :
    Calls Tryd.prog 20 #[.string ⟨key.toArray⟩, .int .u32 (ctr : Int), .string ⟨nonce.toArray⟩, .string ⟨text.toArray⟩] w (GivesE (xor key ctr nonce text) 0 w) := by
  have E1 := Lib.hid (fun W => state_ok key nonce ctr W hk hn)
  have HO := Lib.hid (fun c (h : c < 4294967296) => start_ok key nonce h)
  have HL := Lib.hid (start_ok key nonce hc).len
  have hz := zero16
  have hz2 := zero64
  have Z := Below.refl w.heap.size w
  have hcv := convT text
  have hsz := sizeS text
  obtain ⟨X, hX⟩ : ∃ X, X = xor key ctr nonce text := ⟨_, rfl⟩
  rw [← hX]
  have HXL := Lib.hid (show X.length = text.length by rw [hX]; exact xor_length _ _ _ _)
  have HXI := Lib.hid (fun k i x (hi : i < 64) (h : text[64 * k + i]? = some x) => show X[64 * k + i]? = some (x ^^^ (blk (start key ((ctr + k) % 4294967296) nonce)).getD i 0) by rw [hX]; exact xor_in hi h)
  have H0 := Lib.hid (Nat.mod_eq_of_lt hc)
  clear hX hk hn hc
  go_enter Tryd.func20, Tryd.ntmps20
  go_wp2_with (first
    | (go_at_call 39; (with_reducible refine (E1.out _).mono ?_); rintro e w1 ⟨rfl, hb⟩; replace Z := bcj Z hb; clear hb)
    | ((with_reducible refine at_store 63 (.tmp 10) (.tmp 22) rfl ?_); refine wpList_store_mid rfl 63 (.tmp 10) (.tmp 22) rfl w1.heap.size 0 ((start key ctr nonce).map wv).toArray rfl rfl (fresh16W w1 _ HL.out _) (i16A HL.out) (words_one _) ?_; refine gen_world (Pq := fun W => HasS w W w1.heap.size (start key ctr nonce)) (G := fun W => wpList _ _ _ _ _ W) (hasS_new Z _ HL.out _) ?_; intro w2 S2; have Z2 := Z.size; clear Z))
  have S3 := xorS_start S2 Z2 text
  have g1 := grownCap_ge w2 text.length 0 5
  have g2 := grownCap_le_maxLen w2 text.length 0 5 (by unfold maxLen; omega)
  unfold maxLen at g2
  generalize grownCap w2 text.length 0 5 = c at g1 g2 ⊢
  revert S3
  generalize Lib.bytesWorld w2 5 ⟨text.toArray⟩ = w3
  intro S3
  revert S3
  generalize w2.heap.size = go
  generalize w1.heap.size = gs
  intro S3
  clear S2 Z2
  obtain ⟨n, hnl⟩ : ∃ n, n = text.length := ⟨_, rfl⟩
  have HN := Lib.hid hnl
  rw [← hnl] at S3 g1 hx hsz ⊢
  clear hnl
  go_loopw [13] (fun iv wr => ∃ (k p : Nat), p = 64 * k ∧ p < n + 64 ∧ iv = .int .i64 (p : Int) ∧ XorS w wr gs go n (start key ((ctr + k) % 4294967296) nonce) (mix X text p)) (fun iv _ => n - (intOf iv).toNat)
  case atStart => exact ⟨0, 0, rfl, by omega, rfl, by rw [mix_zero, Nat.add_zero, H0.out]; exact S3⟩
  case round =>
    obtain ⟨k, p, hp, hpn, rfl, hr⟩ := hrel
    clear S3
    by_cases hlt : p < n
    · have hst := HO.out ((ctr + k) % 4294967296) (Nat.mod_lt _ (by omega))
      have hcx := HXI.out k
      have hsuc : (ctr + k) % 4294967296 + 1 < 4294967297 := by have := Nat.mod_lt (ctr + k) (show 0 < 4294967296 by omega); omega
      have hsu2 : ((ctr + k) % 4294967296 + 1) % 4294967296 = (ctr + (k + 1)) % 4294967296 := by omega
      by_cases h64 : p + 64 ≤ n
      case' pos =>
        obtain ⟨m, hm⟩ : ∃ m, m = 64 := ⟨_, rfl⟩
        have hsl := part_of go n c p (p + 64) m (by omega) h64 g1 (by omega)
        rw [show ((p + 64 : Nat) : Int) = (p : Int) + 64 by omega] at hsl
        have hmin : ¬ (n : Int) < (p : Int) + 64 := by omega
        have hm3 : mix X text (p + m) = mix X text (p + 64) := by rw [hm]
        have hm2 : p + m ≤ n := by omega
        have hm1 : m ≤ 64 := by omega
        clear hm h64
      case' neg =>
        obtain ⟨m, hm⟩ : ∃ m, m = n - p := ⟨_, rfl⟩
        have hsl := part_of go n c p n m (by omega) (Nat.le_refl _) g1 (by omega)
        have hmin : (n : Int) < (p : Int) + 64 := by omega
        have hm3 : mix X text (p + m) = mix X text (p + 64) := by
          rw [show p + m = n by omega, mix_all HXL.out (by rw [HN.out]; exact Nat.le_refl _), mix_all HXL.out (by rw [← HN.out]; omega)]
        have hm2 : p + m ≤ n := by omega
        have hm1 : m ≤ 64 := by omega
        clear hm h64
      all_goals
        have HM3 := Lib.hid hm3
        have HCX := Lib.hid hcx
        have HS1 := Lib.hid hsuc
        have HS2 := Lib.hid hsu2
        have HP := Lib.hid hp
        have hnx := fun W (h : XorS w W gs go n (start key ((ctr + k) % 4294967296) nonce) (mix X text (p + 64))) => h.next ((ctr + (k + 1)) % 4294967296)
        have HNX := Lib.hid hnx
        have hcs := fun W (h : XorS w W gs go n (start key ((ctr + k) % 4294967296) nonce) (mix X text (p + 64))) => start_ctr h
        generalize (ctr + k) % 4294967296 = cc at *
        clear hm3 hcx hsuc hsu2 hp hnx
        have E2 := Lib.hid (fun W => block_any (start key cc nonce) W hst)
        have HLN := Lib.hid hst.len
        have HKL := Lib.hid (blk_length hst)
        generalize blk (start key cc nonce) = K at *
        clear hst
        have z0 : (p : Int) < (n : Int) := by omega
        have z1 : (0 : Int) ≤ (p : Int) := by omega
        have z2 : (n : Int) ≤ 140737488355328 := by omega
        go_wp2_with (first
          | ((with_reducible refine at_slot 35 rfl ?_); refine wpList_load_mid rfl 63 (.tmp 10) rfl gs 0 rfl ((start key cc nonce).map wv) _ hr.st.range und16 rfl (i16 HLN.out) ?_)
          | (go_at_call 40; (with_reducible refine (E2.out _).mono ?_); rintro e w4 ⟨rfl, hb⟩; have S4 := hr.on hb; clear hb hr)
          | ((with_reducible refine at_store 66 (.tmp 14) (.tmp 36) rfl ?_); refine wpList_store_mid rfl 66 (.tmp 14) (.tmp 36) rfl w4.heap.size 0 (K.map bv).toArray rfl rfl (fresh64W w4 K HKL.out _) (i64A HKL.out) (bytes_all _) ?_; refine gen_world (Pq := fun W => InS w W gs go w4.heap.size n (start key cc nonce) (mix X text p) K) (G := fun W => wpList _ _ _ _ _ W) (inS_new S4 K HKL.out _) ?_; intro w5 S5; clear S4))
        revert S5
        generalize w4.heap.size = gb
        intro S5
        clear hsl hmin
        go_loopw [47] (fun iv wq => ∃ (i : Nat), i ≤ m ∧ iv = .int .i64 (i : Int) ∧ InS w wq gs go gb n (start key cc nonce) (mix X text (p + i)) K) (fun iv _ => m - (intOf iv).toNat)
        case atStart => exact ⟨0, by omega, rfl, S5⟩
        case round =>
          obtain ⟨i, hi, rfl, hq⟩ := hrel
          clear S5
          by_cases him : i < m
          · obtain ⟨x, hx0⟩ : ∃ x, text[p + i]? = some x := ⟨_, List.getElem?_eq_getElem (by rw [← HN.out]; omega)⟩
            obtain ⟨y, hy0⟩ : ∃ y, K[i]? = some y := ⟨_, List.getElem?_eq_getElem (by rw [HKL.out]; omega)⟩
            have hX := HCX.out i x (by omega) (by rw [← HP.out]; exact hx0)
            rw [← HP.out, List.getD_eq_getElem?_getD, hy0, Option.getD_some] at hX
            have q1 := hq.x.out.at_ (i := p + i) (u := bv x) (by rw [List.getElem?_map, mix_at HXL.out (by rw [← HN.out]; omega), hx0]; rfl)
            have q2 := (hq.b.at_ (i := i) (u := bv y) (by rw [List.getElem?_map, hy0]; rfl)).1
            obtain ⟨q1, q3⟩ := q1
            have hput := fun W (h : InS w W gs go gb n (start key cc nonce) (mix X text (p + i)) K) => h.put HXL.out HN.out.symm (by omega) hX
            have HPUT := Lib.hid hput
            have e1 := xor8 x y
            have hq2 := hq.drew
            have y0 : (0 : Int) ≤ (i : Int) := by omega
            have y1 : (i : Int) < (m : Int) := by omega
            have y2 : (i : Int) < 64 := by omega
            unfold bv at q1 q2
            clear hput hX hx0 hy0 hq him
            go_wp2
            go_still_tail 8, (by kernel_rfl)
            change wpList _ _ _ _ _ wr.drew
            clear q1 q2 q3
            revert hq2
            generalize wr.drew = w6
            intro hq2
            obtain ⟨⟨u, u1⟩, u2⟩ := hq2.x.out.some_ (i := p + i) (by omega)
            go_wp2
            go_roundw
            case rel => exact ⟨i + 1, by omega, by go_num, HPUT.out _ hq2⟩
            case measure => simp [intOf]; omega
          · obtain rfl : i = m := by omega
            have S6 := hq.x
            rw [HM3.out] at S6
            have hfin := HNX.out _ S6
            obtain ⟨c1, c2⟩ := hcs _ S6
            have y0 : ¬ (i : Int) < (i : Int) := by omega
            have hadd : ((cc : Int) + 1) % 4294967296 = (((ctr + (k + 1)) % 4294967296 : Nat) : Int) := by have := HS2.out; omega
            obtain ⟨c3, hc3⟩ : ∃ c3, c3 = (ctr + (k + 1)) % 4294967296 := ⟨_, rfl⟩
            rw [← hc3] at hfin hadd
            have HC3 := Lib.hid hc3
            clear hc3
            have HF := Lib.hid hfin
            clear hfin S6 hq hcs
            go_wp2
            go_roundw
            case rel =>
              refine ⟨k + 1, p + 64, by have := HP.out; omega, by omega, congrArg (Value.int .i64) (by omega), ?_⟩
              rw [← HC3.out]
              exact HF.out
            case measure => simp [intOf]; omega
    · have hpn2 : n ≤ p := by omega
      rw [mix_all HXL.out (by rw [← HN.out]; exact hpn2)] at hr
      have hcv2 := convC hr.out c
      have z0 : ¬ (p : Int) < (n : Int) := by omega
      have HB := Lib.hid hr.below
      clear hr hcv hz hz2
      go_wp2
      go_ret2
      exact ⟨rfl, HB.out⟩

set_option maxRecDepth 100000 in
set_option maxHeartbeats 1000000 in
theorem xor_err (key nonce text : List UInt8) (ctr : Nat) (w : World) (h : ¬ (key.length = 32 ∧ nonce.length = 12)) :
    Calls Tryd.prog 20 #[.string ⟨key.toArray⟩, .int .u32 (ctr : Int), .string ⟨nonce.toArray⟩, .string ⟨text.toArray⟩] w (GivesE [] 1 w) := by
  have E1 := Lib.hid (fun W => state_err key nonce ctr W h)
  have hz := zero16
  have Z := Below.refl w.heap.size w
  clear h
  go_enter Tryd.func20, Tryd.ntmps20
  go_wp2_with (first
    | (go_at_call 39; (with_reducible refine (E1.out _).mono ?_); rintro e w1 ⟨rfl, hb⟩; replace Z := bcj Z hb; clear hb)
    | ((with_reducible refine at_store 63 (.tmp 10) (.tmp 22) rfl ?_); refine wpList_store_mid rfl 63 (.tmp 10) (.tmp 22) rfl w1.heap.size 0 z16 rfl rfl (fresh16W w1 zN rfl _) (by kernel_rfl) (words_one zN) ?_; refine gen_world (Pq := fun W => HasS w W w1.heap.size zN) (G := fun W => wpList _ _ _ _ _ W) (hasS_new Z zN rfl _) ?_; intro w2 S2; clear Z))
  go_ret2
  exact ⟨rfl, S2.below⟩

end Cha
end Go.Proofs.YtdlcoajjhcbffaaDoor
