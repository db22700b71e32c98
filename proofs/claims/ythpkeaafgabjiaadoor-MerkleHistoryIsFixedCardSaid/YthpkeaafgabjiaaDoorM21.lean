/- MCon; MTz; MPAdd: what each of these parts proves stands ahead of it. -/
import Derived.Test.YthpkeaafgabjiaaDoorM13
import Derived.Test.YthpkeaafgabjiaaDoorM9
import Derived.Lib.AppendZeros
import Derived.Test.YthpkeaafgabjiaaDoorM8
import Derived.Test.YthpkeaafgabjiaaDoorM5
import Derived.Laws.Bits64b
import Derived.Test.YthpkeaafgabjiaaDoorM20
import Derived.Test.YthpkeaafgabjiaaDoorM15
import Derived.Test.YthpkeaafgabjiaaDoorM22
/- slices.Grow of nothing and slices.Concat of two slices of digests. Conditions: the slices read as lists of digests. -/
namespace Go.Proofs.YthpkeaafgabjiaaDoor
open Go.RowKit
namespace Mk
open Wire (bv sv Lies own_more)
open Hash (bcj)

theorem dig_und : Tryd.prog.underlying 3 = some (.int .i64) := Tryd.underlying3
set_option maxRecDepth 100000 in
set_option maxHeartbeats 1000000 in
theorem grow_any (n : Nat) (h0 : 0 < n) (hn : n ≤ 1099511627776) (w : World) :
    Calls Tryd.prog 70 #[.slice none 0 0, .int .i64 (n : Int)] w (GivesO [] w) := by
  obtain ⟨i, hi, hz, hsz, hby⟩ := info_parts dig_info
  have hr := Lib.run_append_nil_zeros (P := Tryd.prog) w 22 3 22 29 i (dv zero) .i64 .i64 Tryd.underlying22 dig_und hi hz n h0 (by rw [hsz]; omega) (by omega) (by rw [hby]; omega)
  have hge := grownCap_ge w n 0 29
  have hmx := grownCap_le_maxLen w n 0 29 (by unfold maxLen; omega)
  generalize grownCap w n 0 29 = cap at *
  have HO : Hid (OwnD (w.drew.alloc (.cells (Builtin.zeroCells (dv zero).cells n ++ Builtin.zeroCells (dv zero).cells (cap - n)) 29)) w.heap.size (.slice (some ⟨w.heap.size, 0, none⟩) 0 cap) 0 [] ∧
      Below w.heap.size w (w.drew.alloc (.cells (Builtin.zeroCells (dv zero).cells n ++ Builtin.zeroCells (dv zero).cells (cap - n)) 29))) := Lib.hid
    ⟨⟨⟨rfl, .inr ⟨w.heap.size, cap, _, rfl, Nat.le_refl _, heap_alloc_new w.drew _, Nat.zero_le _, hmx, by
      have e : (dv zero).cells.size = 16 := rfl
      simp only [Array.size_append, size_zeroCells, e, ← Nat.add_mul]
      congr 1
      omega, by simp [cellsD]⟩⟩, ok_nil⟩, (Hash.belowD w).trans (Wire.b1 w.drew _)⟩
  have HR := Lib.hid hr
  have hmx2 : cap ≤ 9223372036854775807 := by unfold maxLen at hmx; omega
  have y0 : ¬ (n : Int) < 0 := by omega
  have y1 : (0 : Int) < (n : Int) := by omega
  clear hr hi hz hsz hby hmx
  go_enter Tryd.func70, Tryd.ntmps70
  go_wp2_with (at_builtin; refine Lib.wpList_append_run _ rfl (.tmp 20) (.tmp 21) 22 3 rfl (.slice none 0 0) (.int .i64 (n : Int)) rfl rfl _ _ HR.out ?_; refine Hash.gen_world (Pq := fun W => OwnD W w.heap.size (.slice (some ⟨w.heap.size, 0, none⟩) 0 cap) 0 [] ∧ Below w.heap.size w W) (G := fun W => wpList _ _ _ _ _ W) HO.out ?_; clear HO HR; intro w5 Y5)
  go_ret
  exact ⟨_, _, rfl, Y5.1, Y5.2⟩

set_option maxRecDepth 100000 in
set_option maxHeartbeats 2000000 in
theorem concat_any (A B : Option Addr) (n c m k b : Nat) (l x : List (List UInt8)) (w : World) (hl : LiesD w w.heap.size A n c l) (hx : LiesD w w.heap.size B m k x) (h0 : w.cell? ⟨b, 0, none⟩ = some (.slice A n c)) (h1 : w.cell? ⟨b, 1, none⟩ = some (.slice B m k)) (hm : 0 < m) (hnm : n + m ≤ 1000000) :
    Calls Tryd.prog 56 #[.slice (some ⟨b, 0, none⟩) 2 2] w (GivesO (l ++ x) w) := by
  have hb := World.block_lt_of_cell? w _ h0
  have H0 : Hid (∀ W, Below w.heap.size w W → W.cell? ⟨b, 0, none⟩ = some (.slice A n c)) := Lib.hid (fun W h => (World.cell?_of_block (h.block b hb)).trans h0)
  have H1 : Hid (∀ W, Below w.heap.size w W → W.cell? ⟨b, 1, none⟩ = some (.slice B m k)) := Lib.hid (fun W h => (World.cell?_of_block (h.block b hb)).trans h1)
  obtain ⟨s, hs⟩ : ∃ s, s = n + m := ⟨_, rfl⟩
  have HS := Lib.hid hs
  have HG := Lib.hid (fun W => grow_any s (by omega) (by omega) W)
  have HL : Hid (∀ W, Below w.heap.size w W → LiesD W W.heap.size A n c l) := Lib.hid (fun W h => (hl.below h).more h.size)
  have HX : Hid (∀ W, Below w.heap.size w W → LiesD W W.heap.size B m k x) := Lib.hid (fun W h => (hx.below h).more h.size)
  have HW : Hid (Below w.heap.size w w) := Lib.hid (Below.refl _ _)
  have e1 : (n : Int) + (m : Int) = (s : Int) := by omega
  have y9 : ¬ (s : Int) < 0 := by omega
  have y8 : ¬ (n : Int) < 0 := by omega
  have HNM := Lib.hid hnm
  have b1 : n ≤ 1000000 := by omega
  have b2 : m ≤ 1000000 := by omega
  have b3 : s ≤ 2000000 := by omega
  clear hl hx h0 h1 hb hnm hs
  go_enter Tryd.func56, Tryd.ntmps56
  go_wp2
  go_loopw [3, 11] (fun sv' kv wr => ∃ (i : Nat), Below w.heap.size w wr ∧ kv = .int .i64 (i : Int) ∧ ((i = 0 ∧ sv' = .int .i64 0) ∨ (i = 1 ∧ sv' = .int .i64 (n : Int)) ∨ (i = 2 ∧ sv' = .int .i64 (s : Int)))) (fun _ kv _ => (2 - intOf kv).toNat)
  case atStart => exact ⟨0, HW.out, rfl, .inl ⟨rfl, rfl⟩⟩
  case round =>
    obtain ⟨i, hbw, rfl, h⟩ := hrel
    have HBW := Lib.hid hbw
    clear hbw
    rcases h with ⟨rfl, rfl⟩ | ⟨rfl, rfl⟩ | ⟨rfl, rfl⟩
    · have c0 := H0.out _ HBW.out
      go_wp2
      go_roundw
      case rel => exact ⟨1, HBW.out, rfl, .inr (.inl ⟨rfl, rfl⟩)⟩
      case measure => simp [intOf]
    · have c1 := H1.out _ HBW.out
      go_wp2
      go_roundw
      case rel => exact ⟨2, HBW.out, rfl, .inr (.inr ⟨rfl, rfl⟩)⟩
      case measure => simp [intOf]
    · go_wp2_with (go_at_call 70; (with_reducible refine (HG.out _).mono ?_); rintro e w1 ⟨v1, m1, rfl, ho1, hb1⟩; obtain rfl : m1 = 0 := ho1.len.symm; have HO1 := Lib.hid (ho1.more HBW.out.size); have HB1 := Lib.hid (bcj HBW.out hb1); clear ho1 hb1)
      go_loopw [6, 27] (fun v kv wq => ∃ (i j : Nat) (L : List (List UInt8)), kv = .int .i64 (i : Int) ∧ OwnD wq w.heap.size v j L ∧ Below w.heap.size w wq ∧ ((i = 0 ∧ j = 0 ∧ L = []) ∨ (i = 1 ∧ j = n ∧ L = l) ∨ (i = 2 ∧ j = s ∧ L = l ++ x))) (fun _ kv _ => (2 - intOf kv).toNat)
      case atStart => exact ⟨0, 0, [], rfl, HO1.out, HB1.out, .inl ⟨rfl, rfl, rfl⟩⟩
      case round =>
        obtain ⟨i, j, L, rfl, ho, hbq, h⟩ := hrel
        have HOQ := Lib.hid ho
        have HBQ := Lib.hid hbq
        clear ho hbq
        rcases h with ⟨rfl, rfl, rfl⟩ | ⟨rfl, rfl, rfl⟩ | ⟨rfl, rfl, rfl⟩
        · have c0 := H0.out _ HBQ.out
          go_wp2_with (at_builtin; refine append_ds rfl (.tmp 31) (.tmp 32) rfl w.heap.size _ 0 [] rfl HOQ.out A n c rfl l (HL.out _ HBQ.out) (by have := HNM.out; omega) HBQ.out.size ?_; intro v4 w4 ho4 hb4; have HO4 := Lib.hid ho4; have HB4 := Lib.hid (HBQ.out.trans hb4); clear ho4 hb4)
          go_roundw
          case rel => exact ⟨1, n, l, rfl, by have h := HO4.out; rwa [Nat.zero_add, List.nil_append] at h, HB4.out, .inr (.inl ⟨rfl, rfl, rfl⟩)⟩
          case measure => simp [intOf]
        · have c1 := H1.out _ HBQ.out
          go_wp2_with (at_builtin; refine append_ds rfl (.tmp 31) (.tmp 32) rfl w.heap.size _ j L rfl HOQ.out B m k rfl x (HX.out _ HBQ.out) (by have := HNM.out; omega) HBQ.out.size ?_; intro v4 w4 ho4 hb4; have HO4 := Lib.hid ho4; have HB4 := Lib.hid (HBQ.out.trans hb4); clear ho4 hb4)
          go_roundw
          case rel => exact ⟨2, s, _, rfl, by have h := HO4.out; rwa [← HS.out] at h, HB4.out, .inr (.inr ⟨rfl, rfl, rfl⟩)⟩
          case measure => simp [intOf]
        · go_wp2
          go_ret
          exact ⟨_, _, rfl, HOQ.out, HBQ.out⟩
end Mk
end Go.Proofs.YthpkeaafgabjiaaDoor

/- math/bits.TrailingZeros of a complement. Condition: the table is there; the number is at most 2^32. -/
namespace Go.Proofs.YthpkeaafgabjiaaDoor
open Go.RowKit
namespace Mk
theorem ctz_tz : ∀ (k n : Nat), n + 1 < 2 ^ k → Lib.ctzFrom k (2 ^ k - 1 - n) = tz n
  | 0, n, h => by simp at h
  | k + 1, n, h => by
    rw [Nat.pow_succ] at h ⊢
    by_cases hn : n % 2 = 1
    · have ih := ctz_tz k (n / 2) (by omega)
      rw [Lib.ctzFrom, if_neg (by omega), tz_odd hn, ← ih, show (2 ^ k * 2 - 1 - n) / 2 = 2 ^ k - 1 - n / 2 by omega]
    · rw [Lib.ctzFrom, if_pos (by omega), tz_even (by omega)]
theorem ctz_not {n : Nat} (hn : n ≤ 4294967296) : Lib.ctz 64 (18446744073709551615 - n) = tz n := by
  have h := ctz_tz 64 n (by have : (2 : Nat) ^ 64 = 18446744073709551616 := by decide
                            omega)
  rw [show (2 : Nat) ^ 64 - 1 - n = 18446744073709551615 - n from rfl] at h
  unfold Lib.ctz
  rw [if_neg (by omega), h]

set_option maxRecDepth 100000 in
set_option maxHeartbeats 1000000 in
theorem tz64_any (x : Nat) (h0 : x ≠ 0) (hx : x < 18446744073709551616) (w : World) (ht : Tab64 w) :
    Calls Tryd.prog 69 #[.int .u64 (x : Int)] w fun e w' => e = .returned (.int .i64 (Lib.ctz 64 x : Int)) ∧ w' = w := by
  obtain ⟨hlow, hk⟩ := Lib.lowest_bit 64 x h0 hx
  obtain ⟨hi, htab⟩ := Lib.deBruijn64_at _ hk
  have hcell := ht _ hi
  rw [htab] at hcell
  have y0 : ((x : Int) == 0) = false := by simp; omega
  obtain ⟨nx, hnx⟩ : ∃ a, a = 18446744073709551616 - x := ⟨_, rfl⟩
  have f1 : IntKind.u64.wrap (-(x : Int)) = (nx : Int) := by rw [IntKind.wrap_u64]; omega
  rw [show (2 : Nat) ^ 64 = 18446744073709551616 by decide, ← hnx] at hlow
  obtain ⟨k, hkk⟩ : ∃ k, k = Lib.ctz 64 x := ⟨_, rfl⟩
  rw [← hkk] at hlow hk hi hcell ⊢
  obtain ⟨low, hl⟩ : ∃ a, a = 2 ^ k := ⟨_, rfl⟩
  rw [← hl] at hlow hi hcell
  have f2 : bits .and .u64 (x : Int) (nx : Int) = (low : Int) := by rw [← hlow]; exact bits_and_u64_nat x nx hx (by omega)
  obtain ⟨pr, hpr⟩ : ∃ a, a = low * 285870213051353865 % 18446744073709551616 := ⟨_, rfl⟩
  have f3 : IntKind.u64.wrap ((low : Int) * 285870213051353865) = (pr : Int) := by rw [IntKind.wrap_u64, hpr]; omega
  rw [← hpr] at hi hcell
  obtain ⟨idx, hid⟩ : ∃ a, a = pr / 288230376151711744 := ⟨_, rfl⟩
  have f4 : (pr : Int) / 288230376151711744 = (idx : Int) := by omega
  rw [← hid] at hi hcell
  have y1 : (0 : Int) ≤ (idx : Int) := by omega
  have y2 : (idx : Int) < 64 := by have : Lib.deBruijn64tab.length = 64 := by decide
                                   omega
  clear hlow hnx hl hpr hid hi hx htab ht hkk
  go_enter Tryd.func69, Tryd.ntmps69
  go_wp2
  go_ret
  exact ⟨rfl, rfl⟩

set_option maxRecDepth 100000 in
theorem tzNot_any (n : Nat) (hn : n ≤ 4294967296) (w : World) (ht : Tab64 w) :
    Calls Tryd.prog 55 #[.int .u64 ((18446744073709551615 - n : Nat) : Int)] w fun e w' => e = .returned (.int .i64 (tz n : Int)) ∧ w' = w := by
  have HL := Lib.hid (fun W h => tz64_any (18446744073709551615 - n) (by omega) (by omega) W h)
  rw [ctz_not hn] at HL
  have HT := Lib.hid ht
  clear hn ht
  generalize 18446744073709551615 - n = x at *
  go_enter Tryd.func55, Tryd.ntmps55
  go_wp2_with (go_at_call 69; (with_reducible refine (HL.out _ HT.out).mono ?_); rintro e w1 ⟨rfl, rfl⟩)
  go_ret
  exact ⟨rfl, rfl⟩
end Mk
end Go.Proofs.YthpkeaafgabjiaaDoor

/- The package merkle: Add. Conditions: the roots read as a list of digests, the tables are laid. -/
namespace Go.Proofs.YthpkeaafgabjiaaDoor
open Go.RowKit
namespace Mk
open Wire (bv sv Lies)
open Hash (Arr bcj)

set_option maxRecDepth 100000 in
set_option maxHeartbeats 2000000 in
theorem add_bad (n : Int) (A : Option Addr) (k c : Nat) (d : List UInt8) (hd : d.length = 16) (h : pkOk n k = false ∨ (pkOk n k = true ∧ n = 4294967296)) (w : World) : Calls Tryd.prog 28 #[pkv n A k c, dv d] w (GivesK 0 [] 1 w) := by
  have Y := aa_new w n A k c hd 56 29 56
  have HV := Lib.hid (fun W => valid_any n A k c W)
  have HO : Hid (∀ W, OwnD W w.heap.size (.slice none 0 0) 0 []) := Lib.hid (fun W => ownD_nil W _)
  clear hd
  unfold pkv dv at *
  rcases h with h | ⟨h, rfl⟩
  · rw [h] at HV
    clear h
    go_enter Tryd.func28, Tryd.ntmps28
    go_wp2_with (first
      | (go_at_call 54; (with_reducible refine (HV.out _).mono ?_); rintro e w1 ⟨rfl, hb⟩; replace Y := Y.on hb; clear hb; have hth : w1.there (w.heap.size + 1 + 1) 0 2 := (by obtain ⟨zs, hz⟩ := Y.r; exact hz.there))
      | (refine build_k0 rfl rfl ?_; unfold pkv)
      | (refine store_k (.tmp 4) (.tmp 17) rfl rfl (w.heap.size + 1 + 1) rfl (n := 0) (A := none) (k := 0) (c := 0) rfl hth ?_))
    have HE := Y.fin 0 none 0 0
    refine bodyPost_ret (v := .tuple #[pkv 0 none 0 0, .int .i64 1]) ?_ rfl ⟨none, 0, 0, rfl, HO.out _, HE.2⟩
    simp [results, Tryd.results28, asAddr]
    rw [HE.1]
    rfl
  · rw [h] at HV
    clear h
    go_enter Tryd.func28, Tryd.ntmps28
    go_wp2_with (first
      | (go_at_call 54; (with_reducible refine (HV.out _).mono ?_); rintro e w1 ⟨rfl, hb⟩; replace Y := Y.on hb; clear hb; have hth : w1.there (w.heap.size + 1 + 1) 0 2 := (by obtain ⟨zs, hz⟩ := Y.r; exact hz.there); have hc0 := Y.p.size)
      | (refine build_k0 rfl rfl ?_; unfold pkv)
      | (refine store_k (.tmp 4) (.tmp 17) rfl rfl (w.heap.size + 1 + 1) rfl (n := 0) (A := none) (k := 0) (c := 0) rfl hth ?_))
    have HE := Y.fin 0 none 0 0
    refine bodyPost_ret (v := .tuple #[pkv 0 none 0 0, .int .i64 1]) ?_ rfl ⟨none, 0, 0, rfl, HO.out _, HE.2⟩
    simp [results, Tryd.results28, asAddr]
    rw [HE.1]
    rfl

theorem not_u64 (m : Nat) (hm : m ≤ 18446744073709551615) : bits .xor .u64 IntKind.u64.max (m : Int) = ((18446744073709551615 - m : Nat) : Int) := by
  have h1 : BitVec.ofInt 64 IntKind.u64.max = BitVec.allOnes 64 := by decide
  have h2 : (BitVec.ofInt 64 (m : Int)).toNat = m := by
    rw [BitVec.ofInt_natCast, BitVec.toNat_ofNat]; exact Nat.mod_eq_of_lt (by omega)
  show IntKind.u64.wrap ((BitVec.ofInt 64 IntKind.u64.max ^^^ BitVec.ofInt 64 (m : Int)).toNat : Int) = _
  rw [h1, BitVec.allOnes_xor, BitVec.toNat_not, h2, IntKind.wrap_u64, show (2 : Nat) ^ 64 - 1 - m = 18446744073709551615 - m from rfl]
  omega
/-- The result is stored. -/
theorem Ab.putr {w W : World} {n : Int} {A : Option Addr} {k c g : Nat} {d x : List UInt8} (h : Ab w W n A k c d g x) (v u : Value) : Ab w (W.setCells (w.heap.size + 1 + 1) 0 [v, u]) n A k c d g x := by
  have hf := h.far
  obtain ⟨zs, hz⟩ := h.a.r
  exact ⟨⟨⟨h.a.p.arr.aside (by omega) _⟩, ⟨h.a.d.arr.aside (by omega) _⟩, ⟨_, hz.over rfl⟩, h.a.z.trans (Hash.below_cells (B := w.heap.size) (by omega) _ _ _)⟩, ⟨h.x.arr.aside (by omega) _⟩, hf⟩

set_option maxRecDepth 100000 in
set_option maxHeartbeats 8000000 in
theorem add_any (m : Nat) (A : Option Addr) (k c : Nat) (l : List (List UInt8)) (d : List UInt8) (w : World) (hd : d.length = 16) (hl : LiesD w w.heap.size A k c l) (ht : TP w) (h : pkOk (m : Int) k = true) (hm : m < 4294967296) :
    Calls Tryd.prog 28 #[pkv (m : Int) A k c, dv d] w (GivesK ((m : Int) + 1) (added HH l m d) 0 w) := by
  have Y := aa_new w (m : Int) A k c hd 56 29 56
  have HV := Lib.hid (fun W => valid_any (m : Int) A k c W)
  rw [h] at HV
  obtain ⟨-, -, hk⟩ := pkOk_some h
  rw [Int.toNat_natCast] at hk
  have hln := hl.len
  have htz := tz_ones m
  have hmost : c ≤ 9223372036854775807 := by have := hl.lies.most; unfold maxLen at this; omega
  have hle := hl.lies.le
  have hk33 : k ≤ 40 := by
    rw [hk]
    obtain ⟨p0, p1, p2, p3, p4, h0, h1, h2, h3, h4, -, ho⟩ := sums_facts m (by omega)
    rw [ho]
    omega
  rw [added_tz HH d (by rw [hln, hk]; exact Nat.le_refl _), hln]
  have HLF : Hid (∀ W, Aa w W (m : Int) A k c d → Calls Tryd.prog 40 #[.agg (d.map bv).toArray] W (GivesD (HH.leaf d) W)) := Lib.hid (fun W h => leaf_any d hd W (ht.on h.z))
  have HLL := Lib.hid (leaf_length d)
  have HTZ : Hid (∀ W, Below w.heap.size w W → Calls Tryd.prog 55 #[.int .u64 ((18446744073709551615 - m : Nat) : Int)] W fun e w' => e = .returned (.int .i64 (tz m : Int)) ∧ w' = W) := Lib.hid (fun W h => tzNot_any m (by omega) W (ht.on h).c)
  have HD := Lib.hid hd
  have HTT := Lib.hid ht
  obtain ⟨NX, hNX⟩ : ∃ NX, NX = 18446744073709551615 - m := ⟨_, rfl⟩
  rw [← hNX] at HTZ
  have fx : bits .xor .u64 IntKind.u64.max (m : Int) = (NX : Int) := by rw [hNX]; exact not_u64 m (by omega)
  clear hNX
  generalize HH.leaf d = LF at *
  have hmm : tz m ≤ k := by omega
  generalize tz m = T at *
  have y1 : ¬ (m : Int) = 4294967296 := by omega
  have y2 : ((m : Int) == 4294967296) = false := by simpa using y1
  clear hd ht h htz hk
  unfold pkv at HV ⊢
  unfold dv
  go_enter Tryd.func28, Tryd.ntmps28
  go_wp2_with (first
    | (go_at_call 54; (with_reducible refine (HV.out _).mono ?_); rintro e w1 ⟨rfl, hb⟩; replace Y := Y.on hb; clear hb; have hc0 := Y.p.size))
  clear hc0
  refine RegC.regionK (fun W => Aa w W (m : Int) A k c d) [] (fun x _ W => Ab w W (m : Int) A k c d x LF) (fun a x _ => (((((a.put (some 18) (.pointer (some ⟨w.heap.size, 1, none⟩))).put (some 19) (.slice A k c)).put (some 20) (.agg (d.map bv).toArray)).put (some 21) (.agg (LF.map bv).toArray)).put (some 7) (.pointer (some ⟨x, 0, none⟩))).put (some 6) (.slice A k c)) (by kernel_rfl) (fun _ _ d _ _ h => by cases d <;> exact h) ?_ ?_
  · intro Q' hQ cont
    replace Y := Y.on (Hash.belowD _)
    have HC : Hid (∀ W, Aa w W (m : Int) A k c d → W.cell? ⟨w.heap.size, 1, none⟩ = some (.slice A k c)) := Lib.hid (fun W h => h.p.roots)
    (refine RegC.take (i := 0) (v := (.pointer (some ⟨w.heap.size, 1, none⟩))) rfl (by kernel_rfl) (by kernel_rfl) (by kernel_rfl) (by kernel_rfl) (by kernel_rfl) (fun _ _ _ h => hQ _ _ _ _ _ h) (Or.inl ⟨by rfl, ?_⟩) Y ?_; focus (intro W hW; go_simp; try (first | with_reducible rfl | rfl | (rw [if_pos (by omega)]; done) | (rw [if_pos (by omega)]; rfl) | (rw [if_pos (by omega), if_neg (by omega)]; rfl) | (rw [if_neg (by omega)]; rfl))))
    (refine RegC.take (i := 1) (v := (.slice A k c)) rfl (by kernel_rfl) (by kernel_rfl) (by kernel_rfl) (by kernel_rfl) (by kernel_rfl) (fun _ _ _ h => hQ _ _ _ _ _ h) (Or.inl ⟨by rfl, ?_⟩) Y ?_; focus (intro W hW; go_simp; first | (rw [HC.out W hW]; rfl) | (rw [HC.out W hW]; done) | (simp only [HC.out W hW]; done)))
    (refine RegC.take (i := 2) (v := (.agg (d.map bv).toArray)) rfl (by kernel_rfl) (by kernel_rfl) (by kernel_rfl) (by kernel_rfl) (by kernel_rfl) (fun _ _ _ h => hQ _ _ _ _ _ h) (Or.inl ⟨by rfl, fun W hW => ?_⟩) Y ?_; focus (exact (RegC.exec_rowC 29 (.tmp 3) rfl (w.heap.size + 1) 0 (by go_simp) (d.map bv) _ hW.d.range und_d rfl (info_d HD.out))))
    have hsz : w1.drew.heap.size = w1.heap.size := rfl
    refine RegC.ready (rs := [3, 4]) (by kernel_rfl) (by simp) ?_
    refine RegC.cons rfl (fun K hK => ?_) ?_
    · go_simp
      go_wp2_with (go_at_call 40; (with_reducible refine (HLF.out _ Y).mono ?_); rintro e w4 ⟨rfl, hb⟩; unfold dv; replace Y := Y.on hb; clear hb)
      refine ⟨fun _ => Y, ?_⟩
      refine RegC.run1 4 (by kernel_rfl) rfl rfl (.pointer (some ⟨w4.heap.size, 0, none⟩)) (w4.alloc (.cells #[.int .u8 0, .int .u8 0, .int .u8 0, .int .u8 0, .int .u8 0, .int .u8 0, .int .u8 0, .int .u8 0, .int .u8 0, .int .u8 0, .int .u8 0, .int .u8 0, .int .u8 0, .int .u8 0, .int .u8 0, .int .u8 0] 29)) (by go_simp) (fun _ => Y.on (Wire.b1 _ _)) ?_
      have HB := Lib.hid (ab_room Y 29)
      replace Y := Y.on (Wire.b1 w4 (.cells #[.int .u8 0, .int .u8 0, .int .u8 0, .int .u8 0, .int .u8 0, .int .u8 0, .int .u8 0, .int .u8 0, .int .u8 0, .int .u8 0, .int .u8 0, .int .u8 0, .int .u8 0, .int .u8 0, .int .u8 0, .int .u8 0] 29))
      (refine RegC.take (i := 5) (v := (.slice A k c)) rfl (by kernel_rfl) (by kernel_rfl) (by kernel_rfl) (by kernel_rfl) (by kernel_rfl) (fun _ _ _ h => hQ _ _ _ _ _ h) (Or.inl ⟨by rfl, ?_⟩) Y ?_; focus (intro W hW; go_simp; try (first | with_reducible rfl | rfl | (rw [if_pos (by omega)]; done) | (rw [if_pos (by omega)]; rfl) | (rw [if_pos (by omega), if_neg (by omega)]; rfl) | (rw [if_neg (by omega)]; rfl))))
      refine RegC.store1 6 (by kernel_rfl) rfl rfl 29 (.tmp 7) (.tmp 21) rfl w4.heap.size 0 (LF.map bv).toArray (by go_simp) (by go_simp) (HB.out.x.thereA HLL.out) (info_dA HLL.out) (one_d LF) (HB.out.put HLL.out).a ?_
      refine RegC.done (by kernel_rfl) ?_
      exact cont _ 0 _ (HB.out.put HLL.out)
    · refine RegC.consRun 4 rfl rfl (.pointer (some ⟨w1.heap.size, 0, none⟩)) (w1.drew.alloc (.cells #[.int .u8 0, .int .u8 0, .int .u8 0, .int .u8 0, .int .u8 0, .int .u8 0, .int .u8 0, .int .u8 0, .int .u8 0, .int .u8 0, .int .u8 0, .int .u8 0, .int .u8 0, .int .u8 0, .int .u8 0, .int .u8 0] 29)) (by go_simp) (fun _ => Y.on (Wire.b1 _ _)) ?_ RegC.nil
      have HB := ab_room Y 29
      rw [hsz] at HB
      refine Hash.gen_world (Pq := fun W => Ab w W (m : Int) A k c d w1.heap.size zero) (G := fun W => RegC.anyT _ _ _ _ _ _ _ _ _ W) HB ?_
      clear Y HB
      intro w5 Y5
      refine RegC.ready (rs := [3]) (by kernel_rfl) (by simp) ?_
      refine RegC.cons rfl (fun K hK => ?_) RegC.nil
      go_simp
      go_wp2_with (go_at_call 40; (with_reducible refine (HLF.out _ Y5.a).mono ?_); rintro e w4 ⟨rfl, hb⟩; unfold dv; replace Y5 := Y5.on hb; clear hb)
      refine ⟨fun _ => Y5.a, ?_⟩
      have Y := Y5.a
      (refine RegC.take (i := 5) (v := (.slice A k c)) rfl (by kernel_rfl) (by kernel_rfl) (by kernel_rfl) (by kernel_rfl) (by kernel_rfl) (fun _ _ _ h => hQ _ _ _ _ _ h) (Or.inl ⟨by rfl, ?_⟩) Y ?_; focus (intro W hW; go_simp; try (first | with_reducible rfl | rfl | (rw [if_pos (by omega)]; done) | (rw [if_pos (by omega)]; rfl) | (rw [if_pos (by omega), if_neg (by omega)]; rfl) | (rw [if_neg (by omega)]; rfl))))
      refine RegC.store1 6 (by kernel_rfl) rfl rfl 29 (.tmp 7) (.tmp 21) rfl w1.heap.size 0 (LF.map bv).toArray (by go_simp) (by go_simp) (Y5.x.thereA HLL.out) (info_dA HLL.out) (one_d LF) (Y5.put HLL.out).a ?_
      refine RegC.done (by kernel_rfl) ?_
      have hc := cont _ 0 _ (Y5.put HLL.out)
      rw [Act.put_comm _ (.agg (LF.map bv).toArray) (.pointer (some ⟨w1.heap.size, 0, none⟩)) (by decide)] at hc
      exact hc
  · intro gx _ W Y1
    clear Y
    have Y := Y1
    clear Y1
    have hc0 := Y.a.p.size
    have HRW : Hid (∀ W j y, Below w.heap.size w W → l[j]? = some y → ∃ b o, A = some ⟨b, o, none⟩ ∧ W.rangeAt b (o + j * 16) (y.map bv)) := Lib.hid (fun W j y hz hy => by
      obtain ⟨b, o, e, -, hr⟩ := (hl.below hz).row hy
      exact ⟨b, o, e, hr⟩)
    have HOK := Lib.hid hl.ok
    have HLN := Lib.hid hln
    have HTK : Hid (∀ W, Below w.heap.size w W → LiesD W W.heap.size A (k - T) c (l.take (k - T))) := Lib.hid (fun W hz => ((hl.below hz).more hz.size).take (by omega))
    have HND : Hid (∀ y x, y.length = 16 → x.length = 16 → ∀ W, Below w.heap.size w W → Calls Tryd.prog 42 #[.agg (y.map bv).toArray, .agg (x.map bv).toArray] W (GivesD (HH.node y x) W)) := Lib.hid (fun y x hy hx W hz => node_any y x hy hx W (HTT.out.on hz))
    clear hl hln
    go_simp
    go_wp2_with (first
      | (go_at_call 55; (with_reducible refine (HTZ.out _ Y.a.z).mono ?_); rintro e w4 ⟨rfl, rfl⟩))
    clear hc0
    go_loopw [6, 27] (fun rv kv wr => ∃ (i : Nat) (R : List UInt8), i ≤ T ∧ kv = .int .i64 (i : Int) ∧ rv = .slice A (k - i) c ∧ Hid (R = fold HH i l.reverse LF) ∧ Hid (R.length = 16) ∧ Ab w wr (m : Int) A k c d gx R) (fun _ kv _ => (T - intOf kv).toNat)
    case atStart => exact ⟨0, LF, Nat.zero_le _, rfl, rfl, Lib.hid rfl, HLL, Y⟩
    case round =>
      clear Y
      obtain ⟨i, R, hi, rfl, rfl, HR, HRL, Y⟩ := hrel
      by_cases hiT : i < T
      · obtain ⟨r1, hr1⟩ : ∃ r, k - i = r := ⟨_, rfl⟩
        obtain ⟨q, hq⟩ : ∃ q, r1 - 1 = q := ⟨_, rfl⟩
        rw [hr1]
        obtain ⟨y, hy⟩ : ∃ y, l[q]? = some y := ⟨_, List.getElem?_eq_getElem (by rw [HLN.out]; omega)⟩
        have hyr : l.reverse[i]? = some y := by rw [List.getElem?_reverse (by rw [HLN.out]; omega), HLN.out, show k - 1 - i = q by omega]; exact hy
        have HNX : Hid (fold HH (i + 1) l.reverse LF = HH.node y R) := Lib.hid (by rw [fold_succ HH hyr, HR.out])
        have HY := Lib.hid (HOK.out.at_ hy)
        obtain ⟨b, o, rfl, -⟩ := HRW.out wr q y Y.a.z hy
        have HRY : Hid (∀ W, Ab w W (m : Int) (some ⟨b, o, none⟩) k c d gx R → W.rangeAt b (o + q * 16) (y.map bv)) := Lib.hid (fun W h => by
          obtain ⟨b', o', e, hr⟩ := HRW.out W q y h.a.z hy
          cases e
          exact hr)
        have HN2 : Hid (∀ W, Ab w W (m : Int) (some ⟨b, o, none⟩) k c d gx R → Calls Tryd.prog 42 #[.agg (y.map bv).toArray, .agg (R.map bv).toArray] W (GivesD (HH.node y R) W)) := Lib.hid (fun W h => HND.out y R HY.out HRL.out W h.a.z)
        have HNL := Lib.hid (node_length y R)
        generalize HH.node y R = R2 at *
        have z0 : (0 : Int) ≤ (q : Int) := by omega
        have z1 : (r1 : Int) - 1 = (q : Int) := by omega
        have z2 : (i : Int) < (T : Int) := by omega
        have z3 : (q : Int) < (r1 : Int) := by omega
        have z4 : (q : Int) ≤ (c : Int) := by omega
        have z5 : q ≤ 1000000 := by omega
        have HQ : Hid (k - (i + 1) = q) := Lib.hid (by omega)
        clear hy hyr hr1 hq
        go_wp2
        refine QTail.region (C := fun W => Ab w W (m : Int) (some ⟨b, o, none⟩) k c d gx R) 9 (by kernel_rfl) (by kernel_rfl) (Y.on (Hash.belowD _)) ?_
        (refine wpQuiet_step (fun K hK => ?_); go_simp; (first | refine hK _ ?_ | refine ⟨_, fun _ _ => rfl, hK _ ?_⟩); clear hK K)
        (refine wpQuiet_step (fun K hK => ?_); go_simp; (first | refine hK _ ?_ | refine ⟨_, fun _ _ => rfl, hK _ ?_⟩); clear hK K)
        (refine wpQuiet_step (fun K hK => ?_); go_simp; refine ⟨(.slice (some ⟨b, o, none⟩) q c), fun W hW => ?_, hK _ ?_⟩; (first | exact ⟨rfl, rfl⟩ | rfl | (rw [if_pos (by omega)]; exact ⟨rfl, rfl⟩) | (rw [if_pos (by omega), if_neg (by omega)]; exact ⟨rfl, rfl⟩) | (rw [if_neg (by omega)]; exact ⟨rfl, rfl⟩)); clear hK K)
        (refine wpQuiet_step (fun K hK => ?_); go_simp; (first | refine hK _ ?_ | refine ⟨_, fun _ _ => rfl, hK _ ?_⟩); clear hK K)
        (refine wpQuiet_step (fun K hK => ?_); go_simp; (first | refine hK _ ?_ | refine ⟨_, fun _ _ => rfl, hK _ ?_⟩); clear hK K)
        (refine wpQuiet_step (fun K hK => ?_); go_simp; refine ⟨.pointer (some ⟨b, o + q * 16, none⟩), fun W hW => ?_, hK _ ?_⟩; (first | (rw [if_pos (by omega)]; exact ⟨rfl, rfl⟩) | (rw [if_pos (by omega)]; rfl) | exact ⟨rfl, rfl⟩ | rfl); clear hK K)
        refine QTail.loadC (by rfl) 29 (.tmp 37) rfl b (o + q * 16) rfl (y.map bv) _ HRY.out und_d rfl (info_d HY.out) ?_
        refine QTail.loadC (by rfl) 29 (.tmp 7) rfl gx 0 rfl (R.map bv) _ (fun W h => h.x.range) und_d rfl (info_d HRL.out) ?_
        (refine wpQuiet_step (fun K hK => ?_); go_simp; refine ⟨_, fun W hW => (HN2.out W hW).mono fun e w' ⟨he, hb⟩ => ⟨he, hW.on hb⟩, hK _ ?_⟩; clear hK K)
        refine wpQuiet_nil ?_
        clear Y
        intro w7 Y
        simp only [List.drop_succ_cons, List.drop_zero]
        go_wp2_with (first
          | (refine store_d (.tmp 7) (.tmp 40) rfl rfl gx 0 rfl R2 rfl HNL.out Y.x.there ?_; refine Hash.gen_world (Pq := fun W => Ab w W (m : Int) (some ⟨b, o, none⟩) k c d gx R2) (G := fun W => wpList _ _ _ _ _ W) (Y.put HNL.out) ?_; clear Y; intro w8 Y))
        go_roundw
        case rel => exact ⟨i + 1, R2, by omega, by go_num, by rw [HQ.out], Lib.hid HNX.out.symm, HNL, Y⟩
        case measure => simp [intOf]; omega
      · obtain rfl : i = T := by omega
        have z2 : ¬ (i : Int) < (i : Int) := by omega
        rw [← HR.out]
        obtain ⟨r1, hr1⟩ : ∃ r, k - i = r := ⟨_, rfl⟩
        rw [hr1] at HTK ⊢
        have HC0 : Hid (∀ W, Ab w W (m : Int) A k c d gx R → W.cell? ⟨w.heap.size, 0, none⟩ = some (.int .i64 (m : Int))) := Lib.hid (fun W h => h.a.p.size)
        have w5 : IntKind.i64.wrap ((m : Int) + 1) = (m : Int) + 1 := by rw [IntKind.wrap_i64]; omega
        go_wp2
        refine RegC.region (fun W => Ab w W (m : Int) A k c d gx R) [] (by kernel_rfl) ?_
        replace Y := Y.on (Hash.belowD _)
        (refine RegC.take (i := 0) (v := (.pointer (some ⟨w.heap.size, 0, none⟩))) rfl (by kernel_rfl) (by kernel_rfl) (by kernel_rfl) (by kernel_rfl) (by kernel_rfl) (fun _ _ _ h => h) (Or.inl ⟨by rfl, ?_⟩) Y ?_; focus (intro W hW; go_simp; try (first | with_reducible rfl | rfl | (rw [if_pos (by omega)]; done) | (rw [if_pos (by omega)]; rfl) | (rw [if_pos (by omega), if_neg (by omega)]; rfl) | (rw [if_neg (by omega)]; rfl))))
        (refine RegC.take (i := 1) (v := (.int .i64 (m : Int))) rfl (by kernel_rfl) (by kernel_rfl) (by kernel_rfl) (by kernel_rfl) (by kernel_rfl) (fun _ _ _ h => h) (Or.inl ⟨by rfl, ?_⟩) Y ?_; focus (intro W hW; go_simp; first | (rw [HC0.out W hW]; rfl) | (rw [HC0.out W hW]; done) | (simp only [HC0.out W hW]; done)))
        (refine RegC.take (i := 2) (v := ?_) rfl (by kernel_rfl) (by kernel_rfl) (by kernel_rfl) (by kernel_rfl) (by kernel_rfl) (fun _ _ _ h => h) (Or.inl ⟨by rfl, ?_⟩) Y ?_; rotate_left 1; focus (intro W hW; go_simp; try (first | with_reducible rfl | (rw [if_pos (by omega)]; done) | (rw [if_pos (by omega), if_neg (by omega)]; done) | (rw [if_neg (by omega)]; done))))
        (refine RegC.take (i := 3) (v := ?_) rfl (by kernel_rfl) (by kernel_rfl) (by kernel_rfl) (by kernel_rfl) (by kernel_rfl) (fun _ _ _ h => h) (Or.inl ⟨by rfl, ?_⟩) Y ?_; rotate_left 1; focus (intro W hW; go_simp; try (first | with_reducible rfl | (rw [if_pos (by omega)]; done) | (rw [if_pos (by omega), if_neg (by omega)]; done) | (rw [if_neg (by omega)]; done))))
        (refine RegC.take (i := 4) (v := (.agg (R.map bv).toArray)) rfl (by kernel_rfl) (by kernel_rfl) (by kernel_rfl) (by kernel_rfl) (by kernel_rfl) (fun _ _ _ h => h) (Or.inl ⟨by rfl, fun W hW => ?_⟩) Y ?_; focus (exact (RegC.exec_rowC 29 (.tmp 7) rfl gx 0 (by go_simp) (R.map bv) _ hW.x.range und_d rfl (info_d HRL.out))))
        have hsz : wr.drew.heap.size = wr.heap.size := rfl
        refine RegC.run1 5 (by kernel_rfl) rfl rfl (.slice (some ⟨wr.heap.size, 0, none⟩) 1 1) (wr.drew.alloc (.cells (R.map bv).toArray 29)) (by
          have hRL := HRL.out
          go_simp
          rw [Wire.fold_cells (cs := R.map bv) (m := 16) (by rw [List.length_map]; exact HRL.out) _ rfl]
          try rfl) (fun _ => Y.on (Wire.b1 _ _)) ?_
        refine RegC.run1 6 (by kernel_rfl) rfl rfl (.slice (some ⟨wr.heap.size + 1, 0, none⟩) 2 2) ((wr.drew.alloc (.cells (R.map bv).toArray 29)).alloc (.cells #[.slice A r1 c, .slice (some ⟨wr.heap.size, 0, none⟩) 1 1] 22)) (by go_simp) (fun _ => (Y.on (Wire.b1 _ _)).on (Wire.b1 _ _)) ?_
        have HL6 := ((own_litD wr.drew HRL.out (base := 0) (Nat.zero_le _)).on (Wire.b1 _ (.cells #[.slice A r1 c, .slice (some ⟨wr.heap.size, 0, none⟩) 1 1] 22))).form
        have HA6 := Hash.arr_new (wr.drew.alloc (.cells (R.map bv).toArray 29)) #[.slice A r1 c, .slice (some ⟨wr.heap.size, 0, none⟩) 1 1] 22
        rw [Wire.size_alloc, hsz] at HA6
        rw [hsz] at HL6
        refine Hash.gen_world (Pq := fun W => Ab w W (m : Int) A k c d gx R ∧ (∃ A' c', Value.slice (some ⟨wr.heap.size, 0, none⟩) 1 1 = .slice A' 1 c' ∧ LiesD W W.heap.size A' 1 c' [R]) ∧ Arr W (wr.heap.size + 1) 2 [.slice A r1 c, .slice (some ⟨wr.heap.size, 0, none⟩) 1 1]) (G := fun W => RegC.anyT _ _ _ _ _ _ _ _ _ W) ⟨(Y.on (Wire.b1 _ _)).on (Wire.b1 _ _), HL6, HA6⟩ ?_
        clear Y HL6 HA6
        intro w6 Y6
        obtain ⟨Y, ⟨A', c', e6, hl6⟩, ha6⟩ := Y6
        cases e6
        have HCC := Lib.hid (concat_any A _ r1 c 1 1 (wr.heap.size + 1) (l.take r1) [R] w6 (HTK.out _ Y.a.z) hl6 (ha6.cells 0 _ rfl) (ha6.cells 1 _ rfl) (by omega) (by omega))
        clear hl6 ha6
        refine RegC.ready (rs := [7]) (by kernel_rfl) (by simp) ?_
        refine RegC.cons rfl (fun K hK => ?_) RegC.nil
        go_simp
        go_wp2_with (go_at_call 56; (with_reducible refine HCC.out.mono ?_); rintro e w9 ⟨v9, m9, rfl, ho, hb⟩; obtain ⟨A9, c9, rfl, -⟩ := ho.form; have HO := Lib.hid (ho.more Y.a.room); replace Y := Y.on hb; clear hb ho)
        refine ⟨fun _ => Y, ?_⟩
        have HO2 : Hid (∀ vs, OwnD (w9.setCells (w.heap.size + 1 + 1) 0 vs) w.heap.size (.slice A9 m9 c9) m9 (l.take r1 ++ [R])) := Lib.hid (fun vs => (HO.out.cells (Nat.lt_succ_self (w.heap.size + 1 + 1)) vs 0).more (by omega))
        (refine RegC.take (i := 8) (v := (.agg #[.int .i64 ((m : Int) + 1), .slice A9 m9 c9])) rfl (by kernel_rfl) (by kernel_rfl) (by kernel_rfl) (by kernel_rfl) (by kernel_rfl) (fun _ _ _ h => h) (Or.inl ⟨by rfl, ?_⟩) Y ?_; focus (intro W hW; go_simp; try (first | with_reducible rfl | rfl | (rw [if_pos (by omega)]; done) | (rw [if_pos (by omega)]; rfl) | (rw [if_pos (by omega), if_neg (by omega)]; rfl) | (rw [if_neg (by omega)]; rfl))))
        have HTH : Hid (w9.there (w.heap.size + 1 + 1) 0 2) := Lib.hid (by
          obtain ⟨zs, hz⟩ := Y.a.r
          exact hz.there)
        have HFN := Lib.hid (Y.a.fin ((m : Int) + 1) A9 m9 c9)
        refine RegC.store1 9 (by kernel_rfl) rfl rfl 56 (.tmp 4) (.tmp 50) rfl (w.heap.size + 1 + 1) 0 #[.int .i64 ((m : Int) + 1), .slice A9 m9 c9] (by go_simp) (by go_simp) HTH.out (info_k _ _ _ _) (all_oneCell_toArray (fun v hv => by simp only [List.mem_cons, List.not_mem_nil, or_false] at hv; rcases hv with rfl | rfl <;> rfl)) (Y.putr _ _) ?_
        have Y2 := Y.putr (.int .i64 ((m : Int) + 1)) (.slice A9 m9 c9)
        clear Y
        have Y : Ab w (w9.setCells (w.heap.size + 1 + 1) 0 (#[.int .i64 ((m : Int) + 1), .slice A9 m9 c9] : Array Value).toList) (m : Int) A k c d gx R := Y2
        clear Y2
        (refine RegC.take (i := 10) (v := ?_) rfl (by kernel_rfl) (by kernel_rfl) (by kernel_rfl) (by kernel_rfl) (by kernel_rfl) (fun _ _ _ h => h) (Or.inl ⟨by rfl, ?_⟩) Y ?_; rotate_left 1; focus (intro W hW; go_simp; try (first | with_reducible rfl | (rw [if_pos (by omega)]; done) | (rw [if_pos (by omega), if_neg (by omega)]; done) | (rw [if_neg (by omega)]; done))))
        refine RegC.done (by kernel_rfl) ?_
        go_simp
        go_wp2
        refine bodyPost_ret (v := .tuple #[pkv ((m : Int) + 1) A9 m9 c9, .int .i64 0]) ?_ rfl ⟨A9, m9, c9, rfl, (by rw [← HR.out]; exact HO2.out _), HFN.out.2⟩
        simp [results, Tryd.results28, asAddr]
        rw [HFN.out.1]
        rfl
end Mk
end Go.Proofs.YthpkeaafgabjiaaDoor

