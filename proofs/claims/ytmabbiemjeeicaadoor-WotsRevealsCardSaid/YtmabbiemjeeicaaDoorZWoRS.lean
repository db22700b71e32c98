/- The reference of package wots: digest, start. Conditions: the text has at least 16 bytes, the seed at most 1000; the tables are laid. -/
import Derived.Test.YtmabbiemjeeicaaDoorM13
import Derived.Test.YtmabbiemjeeicaaDoorZKRefD
namespace Go.Proofs.YtmabbiemjeeicaaDoor
open Go.RowKit
namespace Wo
open Mk (dv Dg GivesD dg_new dg_zero dg_end store_d load_d und_d info_d one_d info_dA)
open Wire (bv sv Lies enc Made)
open Hash (Table GivesT tabj bcj ofDig Arr at_slot)

/-- The first bytes of a text over zeros. -/
def over (s : List UInt8) (i : Nat) : List UInt8 := s.take i ++ List.replicate (16 - i) 0
theorem over_len {s : List UInt8} (hs : 16 ≤ s.length) {i : Nat} (hi : i ≤ 16) : (over s i).length = 16 := by
  unfold over; rw [List.length_append, List.length_take, List.length_replicate]; omega
theorem over_set {s : List UInt8} (hs : 16 ≤ s.length) {i : Nat} (hi : i < 16) {x : UInt8} (hx : s[i]? = some x) : (over s i).set i x = over s (i + 1) := by
  unfold over
  rw [List.set_append_right _ _ (by rw [List.length_take]; omega), List.length_take, show i - min i s.length = 0 by omega, show 16 - i = (16 - (i + 1)) + 1 by omega, List.take_add_one, hx]
  simp [List.replicate_succ]
theorem over_all (s : List UInt8) : over s 16 = s.take 16 := by simp [over]
structure Sd (w W : World) (y : List UInt8) : Prop where
  r : Dg W w.heap.size zero
  o : Arr W (w.heap.size + 1) 16 (y.map bv)
  z : Below w.heap.size w W
theorem Sd.set {w W : World} {y : List UInt8} (h : Sd w W y) {i : Nat} (hi : i < 16) (x : UInt8) : Sd w (W.setCell ⟨w.heap.size + 1, i, none⟩ (.int .u8 (x.toNat : Int))) (y.set i x) := by
  have ho := h.o.set hi (bv x)
  rw [← List.map_set] at ho
  exact ⟨⟨h.r.arr.other (by omega) _⟩, ho, h.z.setCell (by simp) _⟩
theorem sd_new (w : World) (s : List UInt8) (t u : TypeId) : Sd w ((w.alloc (.cells #[.int .u8 0, .int .u8 0, .int .u8 0, .int .u8 0, .int .u8 0, .int .u8 0, .int .u8 0, .int .u8 0, .int .u8 0, .int .u8 0, .int .u8 0, .int .u8 0, .int .u8 0, .int .u8 0, .int .u8 0, .int .u8 0] t)).alloc (.cells #[.int .u8 0, .int .u8 0, .int .u8 0, .int .u8 0, .int .u8 0, .int .u8 0, .int .u8 0, .int .u8 0, .int .u8 0, .int .u8 0, .int .u8 0, .int .u8 0, .int .u8 0, .int .u8 0, .int .u8 0, .int .u8 0] u)) (over s 0) := by
  have h := bx_new w zero_length t u
  have e : over s 0 = zero := by simp [over, zero]
  rw [e]
  exact ⟨h.p, h.r.arr, h.z⟩
theorem index_s (a : List UInt8) (k : Nat) (x : UInt8) (hx : a[k]? = some x) (W : World) : (Instr.index 9 (.string ⟨a.toArray⟩) (.int .i64 (k : Int))).run Tryd.prog W = .ok (.int .u8 (x.toNat : Int)) W := Hash.index_any a .i64 k x hx W

set_option maxRecDepth 100000 in
set_option maxHeartbeats 1000000 in
theorem refDigest_any (s : List UInt8) (hs : 16 ≤ s.length) (w : World) : Calls Tryd.prog 37 #[.string ⟨s.toArray⟩] w (GivesD (s.take 16) w) := by
  have HS := Lib.hid hs
  clear hs
  go_enter Tryd.func37, Tryd.ntmps37
  go_wp2
  go_loopw [4] (fun iv wr => ∃ (k : Nat), k ≤ 16 ∧ iv = .int .i64 (k : Int) ∧ Sd w wr (over s k)) (fun iv _ => (16 - intOf iv).toNat)
  case atStart => exact ⟨0, by omega, rfl, sd_new w s _ _⟩
  case round =>
    obtain ⟨k, hk, rfl, Y⟩ := hrel
    by_cases hlt : k < 16
    · obtain ⟨x, hx⟩ : ∃ x, s[k]? = some x := ⟨_, List.getElem?_eq_getElem (by have := HS.out; omega)⟩
      have hix := fun W => index_s s k x hx W
      have hset := over_set HS.out hlt hx
      have z0 : (0 : Int) ≤ (k : Int) := by omega
      have z1 : (k : Int) < 16 := by omega
      obtain ⟨⟨q0, q1⟩, q2⟩ := Y.o.some_ (i := k) hlt
      have HF : Hid (Sd w (wr.setCell ⟨w.heap.size + 1, k, none⟩ (.int .u8 (x.toNat : Int))) (over s (k + 1))) := Lib.hid (by
        rw [← hset]
        exact Y.set hlt x)
      clear hset hx Y
      go_wp2
      go_roundw
      case rel => exact ⟨k + 1, by omega, by go_num, HF.out⟩
      case measure => simp [intOf]; omega
    · have z1 : ¬ (k : Int) < 16 := by omega
      obtain rfl : k = 16 := by omega
      rw [over_all] at Y
      have hl : (s.take 16).length = 16 := by have := HS.out; rw [List.length_take]; omega
      obtain ⟨D, hD⟩ : ∃ D, D = s.take 16 := ⟨_, rfl⟩
      rw [← hD] at Y hl
      have HL := Lib.hid hl
      have HD := Lib.hid hD
      clear hD hl
      go_wp2_with (first
        | (refine load_d 14 rfl rfl (.tmp 3) rfl (w.heap.size + 1) 0 rfl D HL.out Y.o.range ?_)
        | (refine store_d (.tmp 2) (.tmp 14) rfl rfl w.heap.size 0 rfl D rfl HL.out Y.r.there ?_))
      have HE := dg_end Y.r HL.out Y.z (by omega)
      refine bodyPost_ret (v := dv D) ?_ rfl ⟨by rw [HD.out], HE.2⟩
      simp [results, Tryd.results37, asAddr]
      rw [HE.1]

set_option maxRecDepth 100000 in
set_option maxHeartbeats 1000000 in
theorem refStart_any (seed : List UInt8) (hs : seed.length ≤ 1000) (k : Nat) (hk : k ≤ 34) (w : World) (ht : TT w) :
    Calls Tryd.prog 30 #[.string ⟨seed.toArray⟩, .int .i64 (k : Int)] w (GivesD (start seed k) w) := by
  have R0 := dg_zero w 23
  have Z := Wire.b1 w (.cells #[.int .u8 0, .int .u8 0, .int .u8 0, .int .u8 0, .int .u8 0, .int .u8 0, .int .u8 0, .int .u8 0, .int .u8 0, .int .u8 0, .int .u8 0, .int .u8 0, .int .u8 0, .int .u8 0, .int .u8 0, .int .u8 0] 23)
  have HI1 := Lib.hid (fun W => Wire.refInt_any (k : Int) W (by omega))
  have HT := Lib.hid ht
  have hel := enc_le (n := k) (by omega)
  have HX : Hid (∀ W, TT W → Calls Tryd.prog 41 #[.string ⟨seed.toArray⟩, .string ⟨#[99, 104, 97, 105, 110]⟩, .slice (some ⟨W.heap.size, 0, none⟩) 1 1] (W.alloc (.cells #[.string ⟨(enc (k : Int)).toArray⟩] 9)) (GivesT (Kdf.derive seed chainL [enc (k : Int)]) W)) := Lib.hid (fun W hW => by
    have hb := Wire.b1 W (.cells #[.string ⟨(enc (k : Int)).toArray⟩] 9)
    refine (Kdf.refDerive_any seed chainL [enc (k : Int)] 1 1 _ _ (lit1 W _) (by omega) ?_ (tabj hW.b hb)).mono fun e w' ⟨h1, h2⟩ => ⟨h1, bcj hb h2⟩
    have e1 := encStr_le (s := chainL) (by decide)
    have e2 := encStr_le (s := enc (k : Int)) (by omega)
    have e3 : chainL.length = 5 := rfl
    simp only [Kdf.input, List.flatMap_cons, List.flatMap_nil, List.append_nil, List.length_append]
    omega)
  have hdl := Kdf.derive_length seed chainL [enc (k : Int)]
  have HS : Hid (start seed k = (Kdf.derive seed chainL [enc (k : Int)]).take 16) := Lib.hid rfl
  generalize Kdf.derive seed chainL [enc (k : Int)] = D at HX hdl HS
  rw [HS.out]
  have HSL : Hid ((D.take 16).length = 16) := Lib.hid (by rw [List.length_take, hdl]; rfl)
  have HG := Lib.hid (fun W => refDigest_any D (by rw [hdl]; omega) W)
  generalize D.take 16 = S at HSL HG ⊢
  generalize enc (k : Int) = E at HI1 HX
  clear hdl ht hs hel HS
  go_enter Tryd.func30, Tryd.ntmps30
  go_wp2_with (first
    | (go_at_call 36; (with_reducible refine (HI1.out _).mono ?_); rintro e w1 ⟨g1, c1, rfl, ho1, hb⟩; replace Z := bcj Z hb; replace R0 := R0.on hb; have hcv := Hash.convO ho1 rfl; clear hb)
    | (go_at_call 41; (with_reducible refine (HX.out _ (HT.out.on Z)).mono ?_); rintro e w2 ⟨rfl, hb⟩; replace Z := bcj Z hb; replace R0 := R0.on hb; clear hb hcv ho1)
    | (go_at_call 37; (with_reducible refine (HG.out _).mono ?_); rintro e w3 ⟨rfl, hb⟩; replace Z := bcj Z hb; replace R0 := R0.on hb; clear hb)
    | (refine store_d (.tmp 4) (.tmp 11) rfl rfl w.heap.size 0 rfl S rfl HSL.out R0.there ?_))
  have HE := dg_end R0 HSL.out Z (by omega)
  refine bodyPost_ret (v := dv S) ?_ rfl ⟨rfl, HE.2⟩
  simp [results, Tryd.results30, asAddr, Act.put]
  rw [HE.1]
end Wo
end Go.Proofs.YtmabbiemjeeicaaDoor
