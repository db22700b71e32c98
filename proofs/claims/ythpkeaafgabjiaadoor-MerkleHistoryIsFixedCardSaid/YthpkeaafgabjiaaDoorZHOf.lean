/- A digest of parts: Of, of the package. Condition: the table of round constants reads as the program lays it; the slice's cells read as the parts, of at most 2^46 bytes each. -/
import Derived.Test.YthpkeaafgabjiaaDoorM4
import Derived.Test.YthpkeaafgabjiaaDoorZEncB
namespace Go.Proofs.YthpkeaafgabjiaaDoor
open Go.RowKit
namespace Hash
open Wire (encStr sv Made)

def tagByte (tag : Int) : UInt8 := UInt8.ofNat (tag % 256).toNat
theorem tagByte_eq (tag : Int) : ((tagByte tag).toNat : Int) = tag % 256 := by unfold tagByte; simp; omega
/-- The input whose hash begins with the digest. -/
def ofIn (tag : Int) (parts : List (List UInt8)) : List UInt8 := tagByte tag :: parts.flatMap encStr

def ofDig (tag : Int) (parts : List (List UInt8)) : List UInt8 := (sha (ofIn tag parts)).take 16
/-- The result's block is the first new one; the stream lies in block g. -/
structure OfS (w W : World) (gT g : Nat) (m : List UInt8) : Prop where
  res : ∃ ys, Arr W w.heap.size 16 ys
  st : Arr W g 73 (strm m)
  far : w.heap.size < g
  tab : Table gT W
  below : Below w.heap.size w W
theorem OfS.on {w W W2 : World} {gT g : Nat} {m : List UInt8} (h : OfS w W gT g m) (hb : Below W.heap.size W W2) : OfS w W2 gT g m := by
  obtain ⟨ys, hy⟩ := h.res
  exact ⟨⟨ys, hy.below hb (hy.size (by omega))⟩, h.st.below hb (h.st.size (by omega)), h.far, h.tab.below hb h.tab.size, h.below.trans (hb.mono h.below.size)⟩
theorem OfS.put {w W : World} {gT g : Nat} {m m2 : List UInt8} (h : OfS w W gT g m) (hT : gT < w.heap.size) : OfS w (W.setCells g 0 (strm m2)) gT g m2 := by
  obtain ⟨ys, hy⟩ := h.res
  have hf := h.far
  have hb := below_cells (Nat.le_refl g) (strm m2) 0 W
  exact ⟨⟨ys, hy.below hb hf⟩, h.st.over (strm_length m2), h.far, h.tab.below hb (by omega), h.below.trans (hb.mono (by omega))⟩
theorem OfS.drew {w W : World} {gT g : Nat} {m : List UInt8} (h : OfS w W gT g m) : OfS w W.drew gT g m := by
  obtain ⟨ys, hy⟩ := h.res
  exact ⟨⟨ys, hy.drew 1⟩, h.st.drew 1, h.far, h.tab.drew 1, h.below.drew⟩
theorem Arr.thereA {w : World} {g n : Nat} {xs ys : List Value} (h : Arr w g n xs) (hy : ys.length = n) : w.there g 0 ys.toArray.size := by
  rw [show ys.toArray.size = n by rw [List.size_toArray]; exact hy]; exact h.there
theorem OfS.ld {w W : World} {gT g : Nat} {m : List UInt8} (h : OfS w W gT g m) : (loadVar 100 ⟨g, 0, none⟩).run Tryd.prog W = .ok (.agg (strm m).toArray) W := run_loadVar_mid _ _ _ _ _ _ h.st.range Tryd.underlying100 rfl (infoS_of (strm_length m))
def z16 : Array Value := ((zeros 16).map Wire.bv).toArray
theorem z16_size : z16.size = 16 := rfl
theorem zero16v (W : World) : (zeroValue 29).run Tryd.prog W = .ok (.agg z16) W := by kernel_rfl
theorem Room.mkOf {w W : World} {gT : Nat} {m : List UInt8} (h : Room w W gT 16) (t : TypeId) : OfS w ((W.alloc (.cells zS t)).setCells W.heap.size 0 (strm m).toArray.toList) gT W.heap.size m := by
  obtain ⟨ys, hy⟩ := h.res
  have hn := arr_new W zS t
  rw [zS_size] at hn
  have hb : Below W.heap.size W ((W.alloc (.cells zS t)).setCells W.heap.size 0 (strm m).toArray.toList) := ((Below.refl _ _).alloc (Nat.le_refl _) _).trans (below_cells (Nat.le_refl _) _ _ _)
  have hs := hy.size (by omega)
  exact ⟨⟨ys, hy.below hb hs⟩, hn.over (strm_length m), hs, h.tab.below hb h.tab.size, h.below.trans (hb.mono h.below.size)⟩

structure OfE (w W : World) (g : Nat) (hs : List UInt8) : Prop where
  res : ∃ ys, Arr W w.heap.size 16 ys
  arr : Arr W g 32 (hs.map Wire.bv)
  below : Below w.heap.size w W
theorem OfS.mkE {w W W2 : World} {gT g : Nat} {m hs : List UInt8} (h : OfS w W gT g m) (hn : Arr W2 W.heap.size 32 (hs.map Wire.bv) ∧ Below W.heap.size W W2) : OfE w W2 W.heap.size hs := by
  have h2 := h.on hn.2
  exact ⟨h2.res, hn.1, h2.below⟩
theorem OfE.range {w W : World} {g : Nat} {hs d r : List UInt8} (h : OfE w W g hs) (hd : hs = d ++ r) : W.rangeAt g 0 (d.map Wire.bv) := by
  have ha := h.arr
  rw [hd, List.map_append] at ha
  exact Arr.mid (p := []) ha
theorem OfE.thereR {w W : World} {g : Nat} {hs : List UInt8} (h : OfE w W g hs) {ys : List Value} (hy : ys.length = 16) : W.there w.heap.size 0 ys.toArray.size := by
  obtain ⟨zs, hz⟩ := h.res
  exact hz.thereA hy
theorem i16 {xs : List Value} (h : xs.length = 16) : (Tryd.prog.info? 29).map (·.size) = some xs.length := by rw [h]; kernel_rfl
theorem i16A {xs : List Value} (h : xs.length = 16) : (Tryd.prog.info? 29).map (·.size) = some xs.toArray.size := by rw [List.size_toArray]; exact i16 h
theorem OfE.fin {w W : World} {g : Nat} {hs : List UInt8} (h : OfE w W g hs) {ys : List Value} (hy : ys.length = 16) :
    (loadVar 29 ⟨w.heap.size, 0, none⟩).run Tryd.prog (W.setCells w.heap.size 0 ys) = .ok (.agg ys.toArray) (W.setCells w.heap.size 0 ys) ∧ Below w.heap.size w (W.setCells w.heap.size 0 ys) := by
  obtain ⟨zs, hz⟩ := h.res
  exact arr_end (w := w) (wr := W) (g := w.heap.size) (xs := ys) 29 h.below (Nat.le_refl _) (by rw [hy]; exact hz.there) Tryd.underlying29 rfl (i16 hy)

theorem arrAt (g : Nat) (W : World) : (Instr.arrayAt 29 (.slice (some ⟨g, 0, none⟩) 16 32)).run Tryd.prog W = .ok (.pointer (some ⟨g, 0, none⟩)) W := by kernel_rfl
theorem addB0 (x : List UInt8) (n c : Nat) (A : Option Addr) (W : World) (hl : Wire.Lies W W.heap.size 1 A n c (x.map Wire.bv)) (ht : Table 3 W) : Calls Tryd.prog 59 #[.agg (strm []).toArray, .slice A n c] W (GivesA (strm x) W) := by
  have := addB_any [] x n c A W hl ht
  rwa [List.nil_append] at this

theorem addTag (tag : Int) (W : World) (ht : Table 3 W) :
    Calls Tryd.prog 59 #[.agg (strm []).toArray, .slice (some ⟨W.heap.size, 0, none⟩) 1 1] (W.alloc (.cells #[.int .u8 (tag % 256)] 5)) (GivesA (strm [tagByte tag]) W) := by
  have hb : Below W.heap.size W (W.alloc (.cells #[.int .u8 (tag % 256)] 5)) := (Below.refl _ _).alloc (Nat.le_refl _) _
  have ha := arr_new W #[.int .u8 (tag % 256)] 5
  have e : (#[Value.int .u8 (tag % 256)] : Array Value).toList = [tagByte tag].map Wire.bv := by
    show [Value.int .u8 (tag % 256)] = [Value.int .u8 ((tagByte tag).toNat : Int)]
    rw [tagByte_eq]
  rw [e] at ha
  refine (addB0 [tagByte tag] 1 1 _ _ (arr_lies (n := 1) ha (by unfold maxLen; omega) (by omega)) (tabj ht hb)).mono fun e w' ⟨he, hw⟩ => ⟨he, bcj hb hw⟩

set_option maxRecDepth 100000 in
set_option maxHeartbeats 1000000 in
theorem of_any (tag : Int) (parts : List (List UInt8)) (n c : Nat) (A : Option Addr) (w : World) (hl : Wire.Lies w w.heap.size 1 A n c (parts.map sv)) (hp : ∀ s ∈ parts, (encStr s).length ≤ 140737488355328) (ht : Table 3 w) :
    Calls Tryd.prog 39 #[.int .i64 tag, .slice A n c] w (GivesA ((ofDig tag parts).map Wire.bv) w) := by
  have R0 := room_new (n := 16) ht z16 z16_size 29
  have L0 := lies_on hl (w' := w.alloc (.cells z16 29)) ((Below.refl _ _).alloc (Nat.le_refl _) _)
  have hg := ht.size
  have hz := zeroS
  have hz2 := zero32
  have hz3 := zero16v
  have hmost : c ≤ 9223372036854775807 := by have := hl.most; unfold maxLen at this; omega
  have hle := hl.le
  have hpn : parts.length = n := by have := hl.len; simpa using this
  have HP := Lib.hid hp
  have HPN := Lib.hid hpn
  clear ht hp hpn
  go_enter Tryd.func39, Tryd.ntmps39
  go_wp2_with (first
    | (go_at_call 60; (with_reducible refine (begin_any _).mono ?_); rintro e w1 ⟨rfl, hb⟩; replace R0 := R0.on (by omega) hb; replace L0 := lies_on L0 hb; clear hb)
    | (go_at_call 59; (with_reducible refine (addTag tag _ R0.tab).mono ?_); rintro e w2 ⟨rfl, hb⟩; replace R0 := R0.on (by omega) hb; clear hb)
    | ((with_reducible refine at_store 100 (.tmp 5) (.tmp 13) rfl ?_); refine wpList_store_mid rfl 100 (.tmp 5) (.tmp 13) rfl w2.heap.size 0 (strm [tagByte tag]).toArray rfl rfl (fresh73 w2 _ (strm_length _) _) (infoS_ofA (strm_length _)) (sval_one _ _ _) ?_; refine gen_world (Pq := fun W => OfS w W 3 w2.heap.size [tagByte tag]) (G := fun W => wpList _ _ _ _ _ W) (R0.mkOf _) ?_; intro w3 S3; clear R0 L0))
  revert S3
  generalize w2.heap.size = g
  intro S3
  go_loopw [16] (fun iv wr => ∃ (k : Nat), k ≤ n ∧ iv = .int .i64 (k : Int) ∧ OfS w wr 3 g (tagByte tag :: (parts.take k).flatMap encStr)) (fun iv _ => (n - intOf iv).toNat)
  case atStart => exact ⟨0, by omega, rfl, S3⟩
  case round =>
    obtain ⟨k, hk, rfl, hq⟩ := hrel
    clear S3
    by_cases hkn : k < n
    · obtain ⟨b, o, u, rfl, hbw, hu, hcx⟩ := (hl.below hq.below).at_ hkn
      obtain ⟨x, hx⟩ : ∃ x, parts[k]? = some x := ⟨_, List.getElem?_eq_getElem (by rw [HPN.out]; exact hkn)⟩
      rw [List.getElem?_map, hx] at hu
      cases hu
      have hxl := HP.out x (List.mem_of_getElem? hx)
      have hsn : tagByte tag :: (parts.take (k + 1)).flatMap encStr = (tagByte tag :: (parts.take k).flatMap encStr) ++ encStr x := by rw [Wire.flat_snoc encStr parts hx]; rfl
      generalize tagByte tag :: (parts.take k).flatMap encStr = m at hq hsn
      have HS := Lib.hid hsn
      have y0 : (0 : Int) ≤ (k : Int) := by omega
      have y1 : (k : Int) < (n : Int) := by omega
      have hld : (loadVar 100 ⟨g, 0, none⟩).run Tryd.prog wr.drew = .ok (.agg (strm m).toArray) wr.drew := run_loadVar_mid _ _ _ _ _ _ (hq.st.drew 1).range Tryd.underlying100 rfl (infoS_of (strm_length m))
      clear hx hsn
      unfold sv at hcx
      have hst := fun W (h : W.there g 0 73) => store_strm (m ++ encStr x) g W h
      have hq2 := hq.drew
      have hby : ∀ W, Calls Tryd.prog 61 #[.string ⟨x.toArray⟩] W (Made W (encStr x).length (encStr x)) := fun W => Wire.bytes_any x W hxl
      have HBY := Lib.hid hby; clear hby
      go_wp2
      refine wp_region_any (by kernel_rfl) ?_
      change wpAny _ _ _ _ _ _ _ wr.drew
      refine wpAny_take (i := 1) (v := ?_) rfl (by kernel_rfl) (by kernel_rfl) (by kernel_rfl) (fun _ _ _ h => h) (Or.inl ⟨by rfl, ?_⟩) ?_
      rotate_left 1
      · intro w'
        go_simp
        rfl
      refine wpAny_ready (rs := [0, 2]) (by kernel_rfl) (by simp) ?_
      refine AllReady.cons rfl (fun K hK => ?_) (AllReady.cons rfl (fun K hK => ?_) AllReady.nil)
      case' refine_1 =>
        rw [if_pos (by rfl)]
        refine wp_load_mid 100 (.tmp 5) rfl g 0 rfl (strm m) _ hq2.st.range Tryd.underlying100 rfl (infoS_of (strm_length m)) ?_
        refine hK _ _ ?_
        clear hK K
        refine wpAny_ready (rs := [2]) (by kernel_rfl) (by simp) ?_
        refine AllReady.cons rfl (fun K hK => ?_) AllReady.nil
        go_simp
        go_at_call 61
        (with_reducible refine (HBY.out _).mono ?_)
        rintro e w5 ⟨g5, cap5, rfl, ho5, hb5⟩
        have hq5 := hq2.on hb5
        refine hK _ _ ?_
        clear hK K
        refine wpAny_ready (rs := [3]) (by kernel_rfl) (by simp) ?_
        refine AllReady.cons rfl (fun K hK => ?_) AllReady.nil
        go_simp
        go_at_call 59
        (with_reducible refine (addB_any m (encStr x) _ _ _ _ (Wire.lies_own ho5) hq5.tab).mono ?_)
        rintro e w6 ⟨rfl, hb6⟩
        have hq6 := hq5.on hb6
        refine hK _ _ ?_
        clear hK K
        refine wpAny_ready (rs := [4]) (by kernel_rfl) (by simp) ?_
        refine AllReady.cons rfl (fun K hK => ?_) AllReady.nil
        rw [if_pos (by rfl)]
        refine wp_store_mid 100 (.tmp 5) (.tmp 23) rfl g 0 (strm (m ++ encStr x)).toArray rfl rfl (hq6.st.thereA (strm_length _)) (infoS_ofA (strm_length _)) (all_oneCell_toArray (strm_one _)) ?_
        refine hK _ _ ?_
        clear hK K
        refine wpAny_done (by kernel_rfl) ?_ _
      case' refine_2 =>
        go_simp
        go_at_call 61
        (with_reducible refine (HBY.out _).mono ?_)
        rintro e w5 ⟨g5, cap5, rfl, ho5, hb5⟩
        have hq5 := hq2.on hb5
        refine hK _ _ ?_
        clear hK K
        refine wpAny_ready (rs := [0]) (by kernel_rfl) (by simp) ?_
        refine AllReady.cons rfl (fun K hK => ?_) AllReady.nil
        rw [if_pos (by rfl)]
        refine wp_load_mid 100 (.tmp 5) rfl g 0 rfl (strm m) _ hq5.st.range Tryd.underlying100 rfl (infoS_of (strm_length m)) ?_
        refine hK _ _ ?_
        clear hK K
        refine wpAny_ready (rs := [3]) (by kernel_rfl) (by simp) ?_
        refine AllReady.cons rfl (fun K hK => ?_) AllReady.nil
        go_simp
        go_at_call 59
        (with_reducible refine (addB_any m (encStr x) _ _ _ _ (Wire.lies_own ho5) hq5.tab).mono ?_)
        rintro e w6 ⟨rfl, hb6⟩
        have hq6 := hq5.on hb6
        refine hK _ _ ?_
        clear hK K
        refine wpAny_ready (rs := [4]) (by kernel_rfl) (by simp) ?_
        refine AllReady.cons rfl (fun K hK => ?_) AllReady.nil
        rw [if_pos (by rfl)]
        refine wp_store_mid 100 (.tmp 5) (.tmp 23) rfl g 0 (strm (m ++ encStr x)).toArray rfl rfl (hq6.st.thereA (strm_length _)) (infoS_ofA (strm_length _)) (all_oneCell_toArray (strm_one _)) ?_
        refine hK _ _ ?_
        clear hK K
        refine wpAny_done (by kernel_rfl) ?_ _
      all_goals
        have S7 : OfS w (w6.setCells g 0 (strm (m ++ encStr x)).toArray.toList) 3 g (m ++ encStr x) := hq6.put hg
        have HS7 := Lib.hid S7
        clear S7 hq6 hq5 hq2 hq
        go_wp2
        go_roundw
        case rel => exact ⟨k + 1, by omega, by go_num, by rw [HS.out]; exact HS7.out⟩
        case measure => simp [intOf]; omega
    · have hkn2 : k = n := by omega
      have S8 : OfS w wr 3 g (ofIn tag parts) := by
        rw [hkn2, List.take_of_length_le (by rw [HPN.out]; exact Nat.le_refl _)] at hq; exact hq
      have z9 : ¬ (k : Int) < (n : Int) := by omega
      have hat := arrAt
      have hsl := sha_length (ofIn tag parts)
      have hdl : ((ofDig tag parts).map Wire.bv).length = 16 := by unfold ofDig; rw [List.length_map, List.length_take, sha_length]; rfl
      have htk : sha (ofIn tag parts) = ofDig tag parts ++ (sha (ofIn tag parts)).drop 16 := (List.take_append_drop 16 _).symm
      have hsum : ∀ W, Table 3 W → Calls Tryd.prog 62 #[.agg (strm (ofIn tag parts)).toArray] W (GivesA ((sha (ofIn tag parts)).map Wire.bv) W) := fun W hW => streamSum_any _ W hW
      generalize ofIn tag parts = inp at S8 hsl htk hsum
      generalize sha inp = hs at hsl htk hsum
      have HSM := Lib.hid hsum
      have HSL := Lib.hid hsl
      have HDL := Lib.hid hdl
      have HTK := Lib.hid htk
      clear hsum hsl hdl htk hkn2 hkn hk hq
      go_wp2_with (first
        | ((with_reducible refine at_slot 25 rfl ?_); refine wpList_load_mid rfl 100 (.tmp 5) rfl g 0 rfl (strm inp) _ S8.st.range Tryd.underlying100 rfl (infoS_of (strm_length _)) ?_)
        | (go_at_call 62; (with_reducible refine (HSM.out _ S8.tab).mono ?_); rintro e w8 ⟨rfl, hb8⟩; have S9 := S8.on hb8; clear S8 hb8)
        | ((with_reducible refine at_store 84 (.tmp 8) (.tmp 26) rfl ?_); refine wpList_store_mid rfl 84 (.tmp 8) (.tmp 26) rfl w8.heap.size 0 (hs.map Wire.bv).toArray rfl rfl (fresh32 w8 hs HSL.out _) (i32A HSL.out) (bytes_all _) ?_; have HN := fresh32A w8 hs HSL.out 84; refine gen_world (Pq := fun W => OfE w W w8.heap.size hs) (G := fun W => wpList _ _ _ _ _ W) (S9.mkE HN) ?_; intro w9 E9; clear HN S9)
        | ((with_reducible refine at_slot 29 rfl ?_); refine wpList_load_mid rfl 29 (.tmp 28) rfl w8.heap.size 0 rfl ((ofDig tag parts).map Wire.bv) _ (E9.range HTK.out) Tryd.underlying29 rfl (i16 HDL.out) ?_)
        | ((with_reducible refine at_store 29 (.tmp 4) (.tmp 29) rfl ?_); refine wpList_store_mid rfl 29 (.tmp 4) (.tmp 29) rfl w.heap.size 0 ((ofDig tag parts).map Wire.bv).toArray rfl rfl (E9.thereR HDL.out) (i16A HDL.out) (bytes_all _) ?_))
      have HE := E9.fin HDL.out
      refine bodyPost_ret (v := .agg ((ofDig tag parts).map Wire.bv).toArray) ?_ rfl ⟨rfl, HE.2⟩
      simp [results, Tryd.results39, asAddr, Act.put]
      rw [HE.1]

end Hash
end Go.Proofs.YthpkeaafgabjiaaDoor
