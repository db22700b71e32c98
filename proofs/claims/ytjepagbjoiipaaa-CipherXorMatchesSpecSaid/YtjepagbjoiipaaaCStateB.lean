/- State of the package cipher. Conditions: those that each theorem names. -/
import Derived.Test.YtjepagbjoiipaaaCState
namespace Go.Proofs.Ytjepagbjoiipaaa
open Go.RowKit
namespace Cha
theorem over_len {xs : List Value} (x : List UInt8) {o k : Nat} (hl : xs.length = 16) (h : o + k ≤ 16) : (over xs x o k).length = 16 := by
  unfold over
  simp [words_length, hl]; omega
def baseN : List Nat := [0x61707865, 0x3320646e, 0x79622d32, 0x6b206574, 0, 0, 0, 0, 0, 0, 0, 0, 0, 0, 0, 0]
def base : List Value := baseN.map wv
theorem start_all (key nonce : List UInt8) (ctr : Nat) : over ((over base key 4 8).set 12 (wv ctr)) nonce 13 3 = (start key ctr nonce).map wv := by
  have e : over base key 4 8 = sigma.map wv ++ ((words key 8).map wv ++ [wv 0, wv 0, wv 0, wv 0]) := rfl
  have h : (sigma.map wv ++ ((words key 8).map wv ++ [wv 0, wv 0, wv 0, wv 0])).set 12 (wv ctr) = sigma.map wv ++ ((words key 8).map wv ++ [wv ctr, wv 0, wv 0, wv 0]) := by
    rw [List.set_append_right _ _ (by simp [sigma]), List.set_append_right _ _ (by simp [sigma, words_length])]
    simp [sigma, words_length]
  rw [e, h]
  unfold over start
  have h3 : (sigma.map wv ++ ((words key 8).map wv ++ [wv ctr, wv 0, wv 0, wv 0])).take 13 = sigma.map wv ++ ((words key 8).map wv ++ [wv ctr]) := by
    simp [List.take_append, sigma, words_length]
    exact List.take_of_length_le (by simp [words_length])
  rw [h3, List.drop_of_length_le (by simp [sigma, words_length])]
  simp

/-- The result's room in the first new block, the state in the second. -/
structure StateS (w W : World) (xs : List Value) : Prop where
  res : ∃ ys, Arr W w.heap.size 16 ys
  arr : Arr W (w.heap.size + 1) 16 xs
  below : Below w.heap.size w W
theorem state_start (w : World) (xs : List Value) (hl : xs.length = 16) (t1 t2 : TypeId) : StateS w (((w.alloc (.cells z16 t1)).alloc (.cells z16 t2)).setCells (w.heap.size + 1) 0 xs.toArray.toList) xs := by
  have h1 := arr_new w z16 t1
  have h2 := arr_new (w.alloc (.cells z16 t1)) z16 t2
  rw [show z16.size = 16 from rfl] at h1 h2
  have h2' : Arr ((w.alloc (.cells z16 t1)).alloc (.cells z16 t2)) (w.heap.size + 1) 16 z16.toList := by simpa using h2
  refine ⟨⟨_, (h1.alloc (by simp) _).aside (by omega) 0⟩, h2'.over hl, (((Below.refl _ _).alloc (Nat.le_refl _) _).alloc (by simp) _).trans (below_cells (by omega) _ _ _)⟩
theorem StateS.load {w W W2 : World} {xs ys : List Value} (h : StateS w W xs) (hl : LoadS W W2 (w.heap.size + 1) ys) : StateS w W2 ys := by
  obtain ⟨zs, hz⟩ := h.res
  exact ⟨⟨zs, hz.below hl.below (by omega)⟩, hl.arr, h.below.trans (hl.below.mono (by omega))⟩
theorem StateS.set12 {w W : World} {xs : List Value} (h : StateS w W xs) (v : Value) : StateS w (W.setCell ⟨w.heap.size + 1, 12, none⟩ v) (xs.set 12 v) := by
  obtain ⟨zs, hz⟩ := h.res
  exact ⟨⟨zs, hz.other (by omega) _⟩, h.arr.set (by omega) v, h.below.setCell (by simp) _⟩
theorem fresh16 (W : World) (xs : List Value) (hl : xs.length = 16) (t1 t2 : TypeId) : ((W.alloc (.cells z16 t1)).alloc (.cells z16 t2)).there (W.heap.size + 1) 0 xs.toArray.size := by
  have h := (arr_new (W.alloc (.cells z16 t1)) z16 t2).there
  rw [show z16.size = 16 from rfl] at h
  rw [show xs.toArray.size = 16 by rw [List.size_toArray]; exact hl]
  simpa using h
theorem wv_all (l : List Nat) : ∀ v ∈ l.map wv, v.oneCell' = true := by
  intro v hv
  obtain ⟨c, _, rfl⟩ := List.mem_map.1 hv
  rfl

theorem start_len (key : List UInt8) (ctr : Nat) (nonce : List UInt8) : (start key ctr nonce).length = 16 := by simp [start, words_length, sigma]
theorem StateS.there {w W : World} {xs : List Value} (h : StateS w W xs) {l : List Nat} (hl : l.length = 16) : W.there w.heap.size 0 (l.map wv).toArray.size := by
  obtain ⟨ys, hy⟩ := h.res
  rw [show (l.map wv).toArray.size = 16 by rw [List.size_toArray, List.length_map]; exact hl]; exact hy.there
theorem StateS.fin {w W : World} {xs : List Value} (h : StateS w W xs) (l : List Nat) (hl : l.length = 16) :
    (loadVar 23 ⟨w.heap.size, 0, none⟩).run Try.prog (W.setCells w.heap.size 0 (l.map wv)) = .ok (.agg (l.map wv).toArray) (W.setCells w.heap.size 0 (l.map wv)) ∧ Below w.heap.size w (W.setCells w.heap.size 0 (l.map wv)) := by
  obtain ⟨ys, hy⟩ := h.res
  exact arr_end (w := w) (wr := W) (g := w.heap.size) (xs := l.map wv) 23 h.below (Nat.le_refl _) (by rw [List.length_map, hl]; exact hy.there) und16 rfl (i16 hl)
def State16 (xs : List Value) (e : Nat) (w : World) (o : Ending) (w' : World) : Prop := o = .returned (.tuple #[.agg xs.toArray, .int .i64 (e : Int)]) ∧ Below w.heap.size w w'

set_option maxRecDepth 100000 in
set_option maxHeartbeats 1000000 in
theorem state_ok (key nonce : List UInt8) (ctr : Nat) (w : World) (hk : key.length = 32) (hn : nonce.length = 12) :
    Calls Try.prog 9 #[.string ⟨key.toArray⟩, .int .u32 (ctr : Int), .string ⟨nonce.toArray⟩] w (State16 ((start key ctr nonce).map wv) 0 w) := by
  have h1 := sizeS key
  have h2 := sizeS nonce
  rw [hk] at h1
  rw [hn] at h2
  have hz := zero16
  have K1 := Lib.hid hk
  have K2 := Lib.hid hn
  clear hk hn
  go_enter Try.func9, Try.ntmps9
  go_wp2_with (first
    | ((with_reducible refine at_store 23 (.tmp 8) (.tmp 18) rfl ?_); refine wpList_store_mid rfl 23 (.tmp 8) (.tmp 18) rfl (w.heap.size + 1) 0 base.toArray rfl rfl (fresh16 w base rfl _ _) (by kernel_rfl) (words_one baseN) ?_; refine gen_world (Pq := fun W => StateS w W base) (G := fun W => wpList _ _ _ _ _ W) (state_start w base rfl _ _) ?_; intro w1 S1)
    | (go_at_call 19; (with_reducible refine (load_any base key (w.heap.size + 1) 4 8 _ w1 K1.out S1.arr (by omega)).mono ?_); rintro e w2 ⟨rfl, hl⟩; have S2 := S1.load hl; clear hl S1; have c12 := S2.arr.some_ (i := 12) (by omega); obtain ⟨⟨u, c12⟩, f12⟩ := c12; have S3 : StateS w (w2.setCell ⟨w.heap.size + 1, 12, none⟩ (.int .u32 (ctr : Int))) ((over base key 4 8).set 12 (wv ctr)) := S2.set12 (wv ctr); clear S2)
    | (go_at_call 19; (with_reducible refine (load_any _ nonce (w.heap.size + 1) 13 3 _ _ K2.out S3.arr (by omega)).mono ?_); rintro e w3 ⟨rfl, hl⟩; have S4 := S3.load hl; rw [start_all] at S4; have hth := S4.there (l := start key ctr nonce) (start_len _ _ _); have hrg := S4.arr.range; have HE := Lib.hid (S4.fin (start key ctr nonce) (start_len _ _ _)); clear hl S3)
    | ((with_reducible refine at_slot 27 rfl ?_); refine wpList_load_mid rfl 23 (.tmp 8) rfl (w.heap.size + 1) 0 rfl ((start key ctr nonce).map wv) _ hrg und16 rfl (i16 (start_len _ _ _)) ?_)
    | ((with_reducible refine at_store 23 (.tmp 6) (.tmp 27) rfl ?_); refine wpList_store_mid rfl 23 (.tmp 6) (.tmp 27) rfl w.heap.size 0 ((start key ctr nonce).map wv).toArray rfl rfl hth (i16A (start_len _ _ _)) (words_one _) ?_))
  refine bodyPost_ret (v := .tuple #[.agg ((start key ctr nonce).map wv).toArray, .int .i64 0]) ?_ rfl ⟨rfl, HE.out.2⟩
  have hE := HE.out.1
  simp [results, Try.results9, asAddr, hE]

def zN : List Nat := [0, 0, 0, 0, 0, 0, 0, 0, 0, 0, 0, 0, 0, 0, 0, 0]
theorem zN_eq : z16 = (zN.map wv).toArray := rfl
theorem fresh1 (W : World) (t : TypeId) : (W.alloc (.cells z16 t)).there W.heap.size 0 z16.size := (arr_new W z16 t).there
theorem fresh1_end (w : World) (t : TypeId) :
    (loadVar 23 ⟨w.heap.size, 0, none⟩).run Try.prog ((w.alloc (.cells z16 t)).setCells w.heap.size 0 z16.toList) = .ok (.agg z16) ((w.alloc (.cells z16 t)).setCells w.heap.size 0 z16.toList) ∧ Below w.heap.size w ((w.alloc (.cells z16 t)).setCells w.heap.size 0 z16.toList) := by
  have h := (arr_new w z16 t).there
  exact arr_end (w := w) (wr := w.alloc (.cells z16 t)) (g := w.heap.size) (xs := z16.toList) 23 ((Below.refl _ _).alloc (Nat.le_refl _) _) (Nat.le_refl _) h und16 rfl (by kernel_rfl)

set_option maxRecDepth 100000 in
set_option maxHeartbeats 1000000 in
theorem state_err (key nonce : List UInt8) (ctr : Nat) (w : World) (h : ¬ (key.length = 32 ∧ nonce.length = 12)) :
    Calls Try.prog 9 #[.string ⟨key.toArray⟩, .int .u32 (ctr : Int), .string ⟨nonce.toArray⟩] w (State16 z16.toList 1 w) := by
  have h1 := sizeS key
  have h2 := sizeS nonce
  have hz := zero16
  have HE := Lib.hid (fresh1_end w 23)
  have hE := HE.out.1
  by_cases hk : key.length = 32
  case' pos =>
    have hn : ¬ (nonce.length : Int) = 12 := by omega
    have hn1 : ((nonce.length : Int) == 12) = false := by simpa using hn
    have hn2 : ((nonce.length : Int) != 12) = true := by simpa using hn
    have hn3 : decide ((nonce.length : Int) = 12) = false := by simpa using hn
    rw [hk] at h1
    clear h hk
  case' neg =>
    have hn : ¬ (key.length : Int) = 32 := by omega
    clear h hk
  all_goals
    have HEQ := Lib.hid hE
    clear hE
    go_enter Try.func9, Try.ntmps9
    go_wp2_with ((with_reducible refine at_store 23 (.tmp 6) (.tmp 17) rfl ?_); refine wpList_store_mid rfl 23 (.tmp 6) (.tmp 17) rfl w.heap.size 0 z16 rfl rfl (fresh1 w _) (by kernel_rfl) (words_one zN) ?_)
    refine bodyPost_ret (v := .tuple #[.agg z16, .int .i64 1]) ?_ rfl ⟨rfl, HE.out.2⟩
    have hE := HEQ.out
    simp [results, Try.results9, asAddr, hE]

end Cha
end Go.Proofs.Ytjepagbjoiipaaa
