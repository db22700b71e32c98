/- A slice of digests that came in, opened: it reads as a list of lists of sixteen bytes. No condition. -/
import Derived.Test.YtlpkiaeimcoplaaOpen
import Derived.Test.YtlpkiaeimcoplaaSameD
import Derived.DataReads
namespace Go.Proofs.Ytlpkiaeimcoplaa
open Go.RowKit Go.ChangeShapes Go.WideShapes
namespace Wire

/-- The byte in a value that is one. -/
def byteOf (v : Value) : UInt8 := match v with | .int _ z => UInt8.ofNat z.toNat | _ => 0
theorem byteOf_bv {z : Int} (h : (Lit.int .u8 z).wf = true) : bv (byteOf (.int .u8 z)) = .int .u8 z := by
  have hr : 0 ≤ z ∧ z ≤ 255 := by simpa [Lit.wf, IntKind.min, IntKind.max, IntKind.signed, IntKind.bits] using h
  unfold bv byteOf
  congr 2
  have h2 : (UInt8.ofNat z.toNat).toNat = z.toNat := by simp; omega
  simp only [h2]
  omega

theorem digCells_len : ∀ (l : List (List UInt8)), (∀ x ∈ l, x.length = 16) → (digCells l).length = l.length * 16
  | [], _ => by simp [digCells]
  | x :: l, h => by
    have h1 := h x (by simp)
    have h2 := digCells_len l (fun y hy => h y (by simp [hy]))
    have e : digCells (x :: l) = x.map bv ++ digCells l := by simp [digCells]
    rw [e, List.length_append, List.length_map, h1, h2, List.length_cons]
    omega

section
variable {H : Type} {enc : TypeId × Value → H} {W : World} {base : Nat}

/-- Sixteen cells that read as an array of bytes are bytes. -/
theorem dig_read {fuel : Nat} {cs : List Value} {x : DataW H × List MemPlace} (h : DataW.trod enc Try.prog W 0 (fun _ => true) true fuel 57 cs = some x) :
    cs.length = 16 ∧ cs = (cs.map byteOf).map bv := by
  obtain ⟨xs, m, _, _, hl, hxl, hi⟩ := DataW.trod_array (n := 16) (e := 5) (by kernel_rfl) h
  have h16 : cs.length = 16 := hl.trans (by kernel_rfl)
  have hc1 : Try.prog.cellsOf 5 = 1 := by kernel_rfl
  rw [hc1] at hi
  refine ⟨h16, List.ext_getElem? fun i => ?_⟩
  by_cases hin : i < 16
  · have h := hi i hin
    have hd1 : (cs.drop (i * 1)).take 1 = [cs[i]'(by omega)] := by rw [Nat.mul_one, List.drop_eq_getElem_cons (by omega)]; rfl
    rw [hd1] at h
    obtain ⟨z, ez, _, wz⟩ := DataW.trod_int Try.underlying5 (h.trans (List.getElem?_eq_getElem (by omega)))
    have ez2 : cs[i]'(by omega) = .int .u8 z := (List.cons.inj ez).1
    rw [List.map_map, List.getElem?_map, List.getElem?_eq_getElem (by omega), ez2]
    simp [byteOf_bv wz]
  · rw [List.getElem?_eq_none (by omega), List.getElem?_eq_none (by simp; omega)]

theorem opened_digests {t : TypeId} (ht : Try.prog.underlying t = some (.slice 57)) {v : Value} (hval : Value.okWide Try.prog W .any base t v) {d : DataW H} {ps : List MemPlace} (hd : DataW.Trod enc Try.prog W 0 (fun _ => true) true t v d ps) :
    ∃ (A : Option Addr) (n c : Nat) (l : List (List UInt8)) , v = .slice A n c ∧ Lies W W.heap.size 16 A n c (digCells l) ∧ l.length = n ∧ ∀ x ∈ l, x.length = 16 := by
  obtain ⟨A, n, c, rfl⟩ := okWide_slice ht hval
  obtain ⟨fuel, hf⟩ := hd
  have hc16 : Try.prog.cellsOf 57 = 16 := by kernel_rfl
  rcases DataW.trod_slice ht hf with ⟨hcs, _⟩ | ⟨a, len, cap, elems, rest, m, _, hcs, hx, hb, hl, hm, hlen, hel, hsp, _⟩
  · simp [Value.cells] at hcs
    obtain ⟨rfl, rfl, rfl⟩ := hcs
    exact ⟨none, 0, 0, [], rfl, ⟨rfl, Nat.le_refl _, by unfold maxLen; omega, fun h => absurd h (by omega), fun h => absurd h (by omega)⟩, rfl, by simp⟩
  · simp [Value.cells] at hcs
    obtain ⟨rfl, rfl, rfl⟩ := hcs
    rw [hc16] at hel hsp
    have each : ∀ i, i < c → ∃ cs : List Value, W.cells? 0 (a.add (i * 16)) 16 = some cs ∧ cs.length = 16 ∧ cs = (cs.map byteOf).map bv := by
      intro i hi
      have h : ∃ y, (W.cells? 0 (a.add (i * 16)) 16).bind (DataW.trod enc Try.prog W 0 (fun _ => true) true m 57) = some y := by
        by_cases hin : i < n
        · exact ⟨_, (hel i hin).trans (List.getElem?_eq_getElem (by omega))⟩
        · obtain ⟨hrl, hr⟩ := hsp rfl
          have h2 := hr (i - n) (by omega)
          rw [show n + (i - n) = i by omega] at h2
          exact ⟨_, h2.trans (List.getElem?_eq_getElem (by omega))⟩
      obtain ⟨y, hy⟩ := h
      obtain ⟨cs, h1, h2⟩ := Option.bind_eq_some_iff.1 hy
      obtain ⟨h3, h4⟩ := dig_read h2
      exact ⟨cs, h1, h3, h4⟩
    rcases Nat.eq_zero_or_pos c with h0 | hpos
    · have hn : n = 0 := by omega
      subst h0; subst hn
      exact ⟨_, 0, 0, [], rfl, ⟨rfl, Nat.le_refl _, by unfold maxLen; omega, fun h => absurd h (by omega), fun h => absurd h (by omega)⟩, rfl, by simp⟩
    obtain ⟨b, o, rfl⟩ : ∃ b o, a = ⟨b, o, none⟩ := by
      obtain ⟨cs, h1, h2, _⟩ := each 0 hpos
      have h4 := (World.cells?_some h1).2.2 0 (by omega)
      rw [List.getElem?_eq_getElem (by omega)] at h4
      obtain ⟨b, o, spot⟩ := a
      have hspot : spot = none := by simpa [Addr.add] using World.cell?_spot h4
      subst hspot
      exact ⟨b, o, rfl⟩
    have hadd : ∀ (b o j : Nat), (⟨b, o, none⟩ : Addr).add j = ⟨b, o + j, none⟩ := fun b o j => by unfold Addr.add; split <;> simp_all
    have hw : ∀ i, i < n → ∃ x : List UInt8, x.length = 16 ∧ ∀ (j : Nat) (u : Value), (x.map bv)[j]? = some u → W.cell? ⟨b, o + i * 16 + j, none⟩ = some u := by
      intro i hi
      obtain ⟨cs, h1, h2, h3⟩ := each i (by omega)
      refine ⟨cs.map byteOf, by simpa using h2, fun j u hu => ?_⟩
      have hj : j < 16 := by
        have := (List.getElem?_eq_some_iff.1 hu).1
        simp at this
        omega
      have h4 := (World.cells?_some h1).2.2 j hj
      rw [hadd, hadd] at h4
      rw [h4, h3]
      exact hu
    have hlt : b < W.heap.size := by
      obtain ⟨cs, h1, h2, _⟩ := each 0 hpos
      have h4 := (World.cells?_some h1).2.2 0 (by omega)
      rw [List.getElem?_eq_getElem (by omega)] at h4
      have := World.block_lt_of_cell? W _ h4
      simpa [Addr.add] using this
    obtain ⟨l, hll, hlx⟩ : ∃ l : List (List UInt8), l.length = n ∧ ∀ i x, l[i]? = some x → x.length = 16 ∧ ∀ (j : Nat) (u : Value), (x.map bv)[j]? = some u → W.cell? ⟨b, o + i * 16 + j, none⟩ = some u := by
      refine ⟨(List.range n).map fun i => if h : i < n then Classical.choose (hw i h) else [], by simp, fun i x hx => ?_⟩
      rw [List.getElem?_map] at hx
      have hin : i < n := by
        rcases Nat.lt_or_ge i n with h | h
        · exact h
        · rw [List.getElem?_eq_none (by simpa using h)] at hx; cases hx
      rw [List.getElem?_range hin] at hx
      simp only [Option.map_some, Option.some.injEq, hin, dif_pos] at hx
      subst hx
      exact Classical.choose_spec (hw i hin)
    have hl16 : ∀ x ∈ l, x.length = 16 := fun x hx => by
      obtain ⟨i, hi⟩ := List.getElem?_of_mem hx
      exact (hlx i x hi).1
    refine ⟨_, n, c, l, rfl, ⟨by rw [digCells_len l hl16, hll], hl, hm, fun _ => ⟨b, o, rfl⟩, fun hp => ⟨b, o, rfl, hlt, fun j u hu => ?_⟩⟩, hll, hl16⟩
    have hj := (List.getElem?_eq_some_iff.1 hu).1
    rw [digCells_len l hl16, hll] at hj
    have hx : l[j / 16]? = some (l[j / 16]'(by omega)) := List.getElem?_eq_getElem _
    obtain ⟨h1, h2⟩ := hlx _ _ hx
    have hv : ((l[j / 16]'(by omega)).map bv)[j % 16]? = some (bv ((l[j / 16]'(by omega))[j % 16]'(by omega))) := by
      rw [List.getElem?_map, List.getElem?_eq_getElem (by omega)]; rfl
    have h3 := digCells_at l _ _ hl16 hx _ _ hv
    rw [show j / 16 * 16 + j % 16 = j by omega, hu] at h3
    have h4 := h2 _ _ hv
    rw [show o + j / 16 * 16 + j % 16 = o + j by omega] at h4
    rw [h4, Option.some.inj h3]
end
end Wire
end Go.Proofs.Ytlpkiaeimcoplaa
