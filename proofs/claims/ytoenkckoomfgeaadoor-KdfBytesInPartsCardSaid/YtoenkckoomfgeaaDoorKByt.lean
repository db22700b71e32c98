/- Package kdf: Bytes; what the package answers, as one. Conditions: as each theorem says. -/
import Derived.Test.YtoenkckoomfgeaaDoorKVal
import Derived.Test.YtoenkckoomfgeaaDoorShl
namespace Go.Proofs.YtoenkckoomfgeaaDoor
open Go Go.RowKit Go.Shelf
namespace Kdf
open Hash (Table tabj bcj GivesT sizeS Arr)
open Rng (Keep Runs Box)
attribute [local go_sem] Oper.semAt_some

set_option maxRecDepth 100000 in
theorem values_ok (s : List UInt8) (n : Int) (w : World) :
    Calls Tryd.prog 27 #[.agg #[.string ⟨s.toArray⟩], .int .i64 n] w (fun e w' => e = .returned (.func (.func 40) #[] #[.pointer (some ⟨w.heap.size, 0, none⟩), .pointer (some ⟨w.heap.size + 1, 0, none⟩)]) ∧ w' = (w.alloc (.cells #[.string ⟨s.toArray⟩] 33)).alloc (.cells #[.int .i64 n] 3)) := by
  go_enter Tryd.func27, Tryd.ntmps27
  go_wp2
  go_ret
  exact ⟨rfl, rfl⟩

set_option maxRecDepth 100000 in
set_option maxHeartbeats 1000000 in
theorem bytes_out (s : List UInt8) (n : Int) (w : World) (hn : n < 0 ∨ 8000 < n) (ht : Table 1 w) :
    Calls Tryd.prog 19 #[.agg #[.string ⟨s.toArray⟩], .int .i64 n] w (GivesR [] s w) := by
  have Y := nx_new s (.string ⟨#[]⟩) 33 ht
  have HR : Hid (∀ W, NX 1 w W s → W.rangeAt w.heap.size 0 [.string ⟨s.toArray⟩]) := Lib.hid (fun W h => h.gen.range)
  clear ht
  rcases hn with hn | hn
  all_goals
    try have y2 : ¬ n < 0 := by omega
    go_enter Tryd.func19, Tryd.ntmps19
    go_wp2
    refine QTail.region (C := fun W => NX 1 w W s) 2 (by kernel_rfl) (by kernel_rfl) Y ?_
    refine QTail.loadC (by rfl) 33 (.tmp 2) rfl w.heap.size 0 rfl [.string ⟨s.toArray⟩] _ HR.out Tryd.underlying33 rfl (by kernel_rfl) ?_
    (refine wpQuiet_step (fun K hK => ?_); go_simp; refine ⟨_, fun _ _ => rfl, hK _ ?_⟩; clear hK K)
    refine wpQuiet_nil ?_
    clear Y
    intro w2 Y
    obtain ⟨y, hy⟩ := Y.res
    refine wpList_store_mid rfl 33 (.tmp 5) (.tmp 16) rfl (w.heap.size + 1) 0 #[.string ⟨s.toArray⟩] rfl rfl hy.there (by kernel_rfl) (by simp [Value.oneCell']) ?_
    obtain ⟨he, hbe⟩ := Hash.arr_end (w := w) (wr := w2) (g := w.heap.size + 1) (xs := [.string ⟨s.toArray⟩]) 33 Y.bel (by omega) hy.there Tryd.underlying33 rfl (by kernel_rfl)
    have HF := Lib.hid he
    have HB := Lib.hid hbe
    clear he hbe hy Y
    go_wp2
    refine bodyPost_ret (v := .tuple #[.string ⟨#[]⟩, .agg #[.string ⟨s.toArray⟩]]) ?_ rfl ⟨rfl, HB.out⟩
    have := HF.out
    simp [results, Tryd.results19, asAddr, Act.put]
    rw [this]
    rfl

/-- Blocks laid one behind the other. -/
theorem blocks_new : ∀ (os : List Obj) (w : World), Below w.heap.size w (os.foldl World.alloc w) ∧ (os.foldl World.alloc w).heap.size = w.heap.size + os.length ∧ ∀ i o, os[i]? = some o → (os.foldl World.alloc w).heap[w.heap.size + i]? = some o
  | [], w => ⟨Below.refl _ _, rfl, fun i o h => by simp at h⟩
  | x :: r, w => by
    obtain ⟨h1, h2, h3⟩ := blocks_new r (w.alloc x)
    have hb := Wire.b1 w x
    have hz : (w.alloc x).heap.size = w.heap.size + 1 := by simp
    refine ⟨hb.trans (h1.mono hb.size), by rw [List.foldl_cons, h2, hz, List.length_cons]; omega, fun i o h => ?_⟩
    match i, h with
    | 0, h =>
      cases h
      exact (h1.block w.heap.size (by omega)).trans (heap_alloc_new w x)
    | i + 1, h =>
      have := h3 i o h
      rw [hz] at this
      rw [List.foldl_cons, show w.heap.size + (i + 1) = w.heap.size + 1 + i by omega]
      exact this

theorem isBuilder_keep {T e : TypeId} {B b : Nat} {bs : List Value} {q : Nat → Obj → Prop} {A C : World} (h : Lib.IsBuilderF T e B b bs A) (hk : Keep q A C) (h1 : ∀ c, ¬ q b (.cells c T (0, 0))) (h2 : ∀ k c fz, B ≤ k → ¬ q k (.cells c e fz)) : Lib.IsBuilderF T e B b bs C := by
  have at_ : ∀ p, Lib.BuilderAtF T e B b p bs A → Lib.BuilderAtF T e B b p bs C := by
    rintro p ⟨hB, v, hb, hown, hne⟩
    refine ⟨hB, v, hk.block _ _ hb (h1 _), ⟨hown.1, ?_⟩, hne⟩
    rcases hown.2 with hn | ⟨g, cap, cur, fz, hv, hg0, hg, rest⟩
    · exact .inl hn
    · exact .inr ⟨g, cap, cur, fz, hv, hg0, hk.block _ _ hg (h2 _ _ _ hg0), rest⟩
  exact h.imp (at_ _) (at_ _)

theorem isBuilder_keep' {T e t2 : TypeId} {B b g : Nat} {bs : List Value} {A C : World} (h : Lib.IsBuilderF T e B b bs A) (hk : Keep (fun k _ => k = g) A C) (hg : b ≠ g) (hx : ∃ c fz, A.heap[g]? = some (.cells c t2 fz)) (ht : t2 ≠ e) : Lib.IsBuilderF T e B b bs C := by
  have at_ : ∀ p, Lib.BuilderAtF T e B b p bs A → Lib.BuilderAtF T e B b p bs C := by
    rintro p ⟨hB, v, hb, hown, hne⟩
    refine ⟨hB, v, hk.block _ _ hb hg, ⟨hown.1, ?_⟩, hne⟩
    rcases hown.2 with hn | ⟨g2, cap, cur, fz, hv, hg0, hg2, rest⟩
    · exact .inl hn
    · refine .inr ⟨g2, cap, cur, fz, hv, hg0, hk.block _ _ hg2 (fun e2 => ?_), rest⟩
      obtain ⟨c, f, hc⟩ := hx
      subst e2
      rw [hg2] at hc
      simp only [Option.some.injEq, Obj.cells.injEq] at hc
      exact ht hc.2.1.symm
  exact h.imp (at_ _) (at_ _)

/-- What lies in the caller's boxes when k values have come: h: where its blocks begin. -/
structure BI (w A : World) (h k : Nat) (s : List UInt8) : Prop where
  bld : Lib.IsBuilderF 52 5 (h + 1 + 1) (h + 1 + 1) (Lib.byteCells (stream s k)) A
  aft : Box A (h + 1 + 1 + 1) 33 (.string ⟨(after s k).toArray⟩)
  res : ∃ y, Box A (h + 1) 33 y
  bel : Below w.heap.size w A
  siz : h + 1 + 1 + 1 + 1 + 1 + 1 ≤ A.heap.size

/-- What a round may change: the builder, its row, the generator's box. -/
def mine (h k : Nat) (o : Obj) : Prop := k = h + 1 + 1 + 1 ∨ k = h + 1 + 1 ∨ (h + 1 + 1 ≤ k ∧ ∃ c fz, o = .cells c 5 fz)

theorem BI.keep {w A B : World} {h k : Nat} {s : List UInt8} (hi : BI w A h k s) (hw : h = w.heap.size) (hk : Keep (fun k o => own (h + 1 + 1 + 1 + 1 + 1 + 1) k o ∨ (h + 1 + 1 + 1 + 1 + 1 + 1 ≤ k ∧ ∃ r, o = .loop r)) A B) : BI w B h k s := by
  have hl : ∀ k x, k < h + 1 + 1 + 1 + 1 + 1 + 1 → ¬ (own (h + 1 + 1 + 1 + 1 + 1 + 1) k x ∨ (h + 1 + 1 + 1 + 1 + 1 + 1 ≤ k ∧ ∃ r, x = .loop r)) := fun k x hk h => h.elim (fun h => by have := h.1; omega) (fun h => by have := h.1; omega)
  obtain ⟨y, hy⟩ := hi.res
  refine ⟨isBuilder_keep hi.bld hk (fun c => hl _ _ (by omega)) (fun k c fz _ h => ?_), hi.aft.keep hk (hl _ _ (by omega)), ⟨y, hy.keep hk (hl _ _ (by omega))⟩, hk.below hi.bel hi.bel.size (fun k x hk => hl _ _ (by omega)), Nat.le_trans hi.siz hk.size⟩
  rcases h with ⟨_, c2, f2, h2⟩ | ⟨_, r, h2⟩
  · simp only [Obj.cells.injEq] at h2
    exact absurd h2.2.1 (by decide)
  · cases h2

/-- Between a write to the builder and the store of the generator: k values written, the generator of the last round. -/
structure BH (w A : World) (h k j : Nat) (s : List UInt8) : Prop where
  bld : Lib.IsBuilderF 52 5 (h + 1 + 1) (h + 1 + 1) (Lib.byteCells (stream s k)) A
  aft : Box A (h + 1 + 1 + 1) 33 (.string ⟨(after s j).toArray⟩)
  res : ∃ y, Box A (h + 1) 33 y
  bel : Below w.heap.size w A
  siz : h + 1 + 1 + 1 + 1 + 1 + 1 ≤ A.heap.size

theorem BI.on2 {w A B : World} {h k j : Nat} {s : List UInt8} (hi : BI w A h k s) (hw : h = w.heap.size) (hbl : Lib.IsBuilderF 52 5 (h + 1 + 1) (h + 1 + 1) (Lib.byteCells (stream s j)) B) (hb : Below (h + 1 + 1) A B) (ho : Lib.OthersKept 5 (some (h + 1 + 1)) A B) : BH w B h j k s := by
  obtain ⟨y, hy⟩ := hi.res
  exact ⟨hbl, ho _ _ hi.aft (by intro e; have := Option.some.inj e; omega) (fun c fz e => by simp only [Obj.cells.injEq] at e; exact absurd e.2.1 (by decide)), ⟨y, hy.below hb (by omega)⟩, hi.bel.trans (hb.mono (by omega)), Nat.le_trans hi.siz hb.size⟩
theorem BH.put {w A : World} {h k j : Nat} {s : List UInt8} (hi : BH w A h k j s) (hw : h = w.heap.size) : BI w (A.setCell ⟨h + 1 + 1 + 1, 0, none⟩ (.string ⟨(after s k).toArray⟩)) h k s := by
  obtain ⟨y, hy⟩ := hi.res
  have hk : Keep (fun k _ => k = h + 1 + 1 + 1) A (A.setCells (h + 1 + 1 + 1) 0 [.string ⟨(after s k).toArray⟩]) := Keep.setCells _ _ _ _ fun _ _ => rfl
  refine ⟨?_, hi.aft.put _, ⟨y, hy.other (by omega) _ _⟩, hi.bel.setCell (p := ⟨h + 1 + 1 + 1, 0, none⟩) (by show w.heap.size ≤ h + 1 + 1 + 1; omega) _, Nat.le_trans hi.siz hk.size⟩
  exact isBuilder_keep' hi.bld hk (by omega) ⟨_, _, hi.aft⟩ (by decide)

theorem BI.bh {w A : World} {h k : Nat} {s : List UInt8} (hi : BI w A h k s) : BH w A h k k s := ⟨hi.bld, hi.aft, hi.res, hi.bel, hi.siz⟩
theorem BH.bi {w A : World} {h k : Nat} {s : List UInt8} (hi : BH w A h k k s) : BI w A h k s := ⟨hi.bld, hi.aft, hi.res, hi.bel, hi.siz⟩
/-- .. and the deferred calls of the range. -/
structure BD (w A : World) (h k : Nat) (s : List UInt8) (D : Nat) : Prop where
  bi : BI w A h k s
  df : A.heap[D]? = some (.deferred (some []))
theorem BD.on {w A B : World} {h k D : Nat} {s : List UInt8} (hi : BD w A h k s D) (hw : h = w.heap.size) (hD : h + 1 + 1 + 1 + 1 + 1 + 1 ≤ D) (hbl : Lib.IsBuilderF 52 5 (h + 1 + 1) (h + 1 + 1) (Lib.byteCells (stream s k)) B) (hb : Below (h + 1 + 1) A B) (ho : Lib.OthersKept 5 (some (h + 1 + 1)) A B) : BD w B h k s D :=
  ⟨(hi.bi.on2 hw hbl hb ho).bi, ho _ _ hi.df (by intro e; have := Option.some.inj e; omega) (fun c fz e => by cases e)⟩

set_option maxRecDepth 100000 in
set_option maxHeartbeats 2000000 in
theorem bytes_ok (s : List UInt8) (n : Nat) (w : World) (hs : s.length ≤ 100000) (hn : n ≤ 8000) (ht : Table 1 w) :
    Calls Tryd.prog 19 #[.agg #[.string ⟨s.toArray⟩], .int .i64 (n : Int)] w (GivesR (bytes s n) (after s (need n)) w) := by
  refine (callsIn_wide (n := 6)).1 ?_
  have y0 : ¬ (n : Int) < 0 := by omega
  have y1 : ¬ (8000 : Int) < (n : Int) := by omega
  have y2 : ((n : Int) + 32 - 1) / 32 = (need n : Int) := by unfold need; omega
  have hnd : need n ≤ 251 := by unfold need; omega
  obtain ⟨h, hh⟩ : ∃ h, h = w.heap.size := ⟨_, rfl⟩
  refine callsIn_of_wp_marks Tryd.func19 rfl trivial ?_ rfl
  simp only [Tryd.ntmps19, List.size_toArray, List.length_cons, List.length_nil, Nat.reduceAdd, Nat.reduceSub, Array.replicate_succ, Array.replicate_zero, List.push_toArray, List.append_toArray, List.nil_append, List.cons_append]
  gi_wp2
  refine ⟨trivial, (callsIn_wide.2 (values_ok s _ _)).mono ?_⟩
  rintro e w' ⟨rfl, rfl⟩
  gi_wp2
  obtain ⟨W, hW⟩ : ∃ W, W = [Obj.cells #[.string ⟨s.toArray⟩] 33, .cells #[.string ⟨#[]⟩] 33, .cells #[.pointer none, .slice none 0 0] 52, .cells #[.string ⟨s.toArray⟩] 33, .cells #[.string ⟨s.toArray⟩] 33, .cells #[.int .i64 (need n : Int)] 3].foldl World.alloc w := ⟨_, rfl⟩
  have hWW := hW
  simp only [List.foldl_cons, List.foldl_nil] at hWW
  rw [← hWW]
  have hBI : BI w W h 0 s ∧ VS (h + 1 + 1 + 1 + 1 + 1 + 1) (h + 1 + 1 + 1 + 1) (h + 1 + 1 + 1 + 1 + 1) (need n) s W ∧ W.heap.size = h + 1 + 1 + 1 + 1 + 1 + 1 := by
    obtain ⟨b0, hz, ho⟩ := blocks_new [Obj.cells #[.string ⟨s.toArray⟩] 33, .cells #[.string ⟨#[]⟩] 33, .cells #[.pointer none, .slice none 0 0] 52, .cells #[.string ⟨s.toArray⟩] 33, .cells #[.string ⟨s.toArray⟩] 33, .cells #[.int .i64 (need n : Int)] 3] w
    rw [← hW, ← hh] at ho hz
    rw [← hW] at b0
    have hg := ht.size
    rw [← hh] at hg
    have hz2 : W.heap.size = h + 1 + 1 + 1 + 1 + 1 + 1 := hz
    exact ⟨⟨.inl ⟨Nat.le_refl _, .slice none 0 0, ho 2 _ rfl, World.ownsRowF_nil _ _ _ _, by simp [Value.ownBlock]⟩, ho 3 _ rfl, ⟨_, ho 1 _ rfl⟩, b0, by omega⟩, ⟨by omega, by omega, tabj ht b0, ho 4 _ rfl, ho 5 _ rfl⟩, hz2⟩
  obtain ⟨hB0, hV0, hsz⟩ := hBI
  rw [← hh]
  have HH := Lib.hid hh
  have htg := ht.size
  rw [← hh] at htg
  clear hW hWW hh
  refine Rng.wpIn_range (α := Nat) rfl (by omega) (gf := 40) (lb := #[.pointer (some ⟨h + 1 + 1 + 1 + 1, 0, none⟩), .pointer (some ⟨h + 1 + 1 + 1 + 1 + 1, 0, none⟩)]) rfl trivial (enters_of Tryd.func40 (by kernel_rfl) rfl)
    (values_runs 5 (need n) (h + 1 + 1 + 1 + 1 + 1 + 1) (h + 1 + 1 + 1 + 1) (h + 1 + 1 + 1 + 1 + 1) (by omega) (by omega) s hs (mine h) ?pA ?pT) (fun _ => rfl) ?pl ?pd ?ql ?qd ?pre
    (fun pre A => BI w A h pre.length s ∧ pre.length ≤ need n ∧ W.heap.size ≤ A.heap.size)
    (fun _ _ _ => False)
    ?I (fun _ _ _ _ h _ => h) (fun pre A hi => ⟨hi.2.1, hi.2.2⟩) ⟨hB0, by simp, Nat.le_refl _⟩
    (fun x a' A => ∃ Bx t u, W.heap.size ≤ Bx ∧ Box A Bx 33 (.string ⟨(after s (x + 1)).toArray⟩) ∧ a' = { tmps := #[.agg #[.string ⟨s.toArray⟩], .int .i64 (n : Int), .pointer (some ⟨h, 0, none⟩), undef, .string ⟨#[]⟩, .pointer (some ⟨h + 1, 0, none⟩), .pointer (some ⟨h + 1 + 1, 0, none⟩), .pointer (some ⟨h + 1 + 1 + 1, 0, none⟩), .string ⟨(val (after s x)).toArray⟩, .pointer (some ⟨Bx, 0, none⟩), .int .i64 (n : Int), .bool false, .bool false, .int .i64 (n : Int), .bool false, .bool false, undef, .agg #[.string ⟨s.toArray⟩], .agg #[.string ⟨s.toArray⟩], .int .i64 (n : Int), .int .i64 ((n : Int) + 32), .int .i64 ((n : Int) + 32 - 1), .int .i64 (need n : Int), .func (.func 40) #[] #[.pointer (some ⟨h + 1 + 1 + 1 + 1, 0, none⟩), .pointer (some ⟨h + 1 + 1 + 1 + 1 + 1, 0, none⟩)], t, u, undef, undef, undef, undef, undef, undef, undef], defers := [] }) ?hAx ?assign ?body ?done ?stop
  case pA =>
    rintro k c fz hk (h1 | h1 | ⟨_, c2, f2, h1⟩)
    · omega
    · omega
    · simp only [Obj.cells.injEq] at h1
      exact absurd h1.2.1 (by decide)
  case pT =>
    rintro x (h1 | h1 | ⟨h1, _⟩)
    · omega
    · omega
    · omega
  case pl =>
    rintro k r hk (h1 | h1 | ⟨_, c2, f2, h1⟩)
    · omega
    · omega
    · cases h1
  case pd =>
    rintro k r hk (h1 | h1 | ⟨_, c2, f2, h1⟩)
    · omega
    · omega
    · cases h1
  case ql =>
    rintro k r hk ⟨_, c2, f2, h1⟩
    cases h1
  case qd =>
    rintro k r hk ⟨_, c2, f2, h1⟩
    cases h1
  case pre =>
    intro A hk
    have hold := hV0.old
    exact ⟨hold, by have := hk.size; omega, hV0.tab.below hk (by omega), hV0.box.below hk (by omega), hV0.cnt.below hk (by omega)⟩
  case I =>
    rintro pre A B ⟨hi, hl, hz⟩ hk
    rw [hsz] at hk
    exact ⟨hi.keep HH.out hk, hl, Nat.le_trans hz hk.size⟩
  case hAx =>
    rintro x a' A k r o ⟨Bx, t, u, hbz, hb, rfl⟩ hk
    exact ⟨Bx, t, u, hbz, (World.putObj_heap_other (fun e => by subst e; rw [show A.heap[Bx]? = _ from hb] at hk; cases hk)).trans hb, rfl⟩
  case assign =>
    rintro l pre x A K hi ⟨rfl, hlt⟩ hK
    gi_wp2
    exact hK _ _ (Wire.b1 _ _) ⟨A.heap.size, _, _, hi.2.2, heap_alloc_new A _, rfl⟩
  case body =>
    rintro l pre x a' A ⟨hi, hl, hz⟩ ⟨rfl, hlt⟩ ⟨Bx, t, u, hbz, hbx, rfl⟩
    have hXl := stream_length s pre.length
    have hVl := val_length (after s pre.length)
    have hlen : (pre ++ [pre.length]).length = pre.length + 1 := by simp
    have HL := Lib.hid hlen
    have hst : Lib.byteCells (stream s pre.length) ++ Lib.strCells ⟨(val (after s pre.length)).toArray⟩ = Lib.byteCells (stream s (pre.length + 1)) := by
      exact (Lib.byteCells_append _ _).symm
    have HWr := Lib.hid (Shl.writeString (h + 1 + 1) (h + 1 + 1) _ ⟨(val (after s pre.length)).toArray⟩ A hi.bld (by rw [Lib.byteCells_length, sizeS]; omega) (by omega))
    rw [hst] at HWr
    have HI := Lib.hid hi
    clear hi hst hlen hXl hVl
    generalize val (after s pre.length) = V at HWr ⊢
    gi_wp2
    refine ⟨trivial, (CallsIn.inRound l (callsIn_wide.2 HWr.out)).mono ?_⟩
    rintro e w2 ⟨rfl, hbl, hb, ho⟩
    have hbx2 : Box w2 Bx 33 (.string ⟨(after s (pre.length + 1)).toArray⟩) := ho _ _ hbx (by intro e; have := Option.some.inj e; omega) (fun c fz e => by simp only [Obj.cells.injEq] at e; exact absurd e.2.1 (by decide))
    have hi2 := HI.out.on2 HH.out (.inr hbl) hb ho
    have c1 := hbx2.cell
    have c2 := hi2.aft.cell
    have f2 := hi2.aft.free 0
    have HE := Lib.hid hi2
    have HK : Hid (Keep (mine h) A w2) := Lib.hid ((Keep.ofOthers hb ho).mono fun k o _ h => .inr h)
    have HZ := Lib.hid hz
    have HS := Lib.hid hb.size
    clear hbl hb ho hi2 hbx hbx2 hz hl
    gi_wp2
    have e1 : ∀ v, w2.setCell ⟨h + 1 + 1 + 1, 0, none⟩ v = w2.setCells (h + 1 + 1 + 1) 0 [v] := fun _ => rfl
    refine ⟨HK.out.trans (by rw [e1]; exact Keep.setCells _ _ _ _ fun x _ => .inl rfl), ?_, by rw [HL.out]; omega, ?_⟩
    · rw [HL.out]
      exact HE.out.put HH.out
    · rw [e1]
      exact Nat.le_trans (Nat.le_trans HZ.out HS.out) (Hash.below_cells (B := 0) (by omega) _ _ _).size
  case done =>
    rintro D xs A hD hS ⟨hi, hl, hz⟩ hK
    rw [hS] at hi
    have hXl := stream_length s (need n)
    have hnl := need_le n
    have hsl : ∀ W : World, (Instr.slice 9 (.string ⟨(stream s (need n)).toArray⟩) none (some (.int .i64 (n : Int))) none).run Tryd.prog W = .ok (.string ⟨(bytes s n).toArray⟩) W := fun W => take_to _ _ n (by omega) rfl W
    have HW := Lib.hid (show h + 1 + 1 + 1 + 1 + 1 + 1 ≤ D by omega)
    have HC : Hid (∀ B, BD w B h (need n) s D → Calls Tryd.prog 29 #[.pointer (some ⟨h + 1 + 1, 0, none⟩)] B (fun e w' => e = .returned (.string ⟨(stream s (need n)).toArray⟩) ∧ BD w w' h (need n) s D)) :=
      Lib.hid (fun B hb => (Shl.string (h + 1 + 1) (h + 1 + 1) (stream s (need n)) B hb.bi.bld (by have := hb.bi.siz; omega)).mono fun e w' ⟨he, h1, h2, h3⟩ => ⟨he, hb.on HH.out HW.out h1 h2 h3⟩)
    have HR : ∀ B, BD w B h (need n) s D → B.rangeAt (h + 1 + 1 + 1) 0 [.string ⟨(after s (need n)).toArray⟩] := fun B hb => hb.bi.aft.arr.range
    have Y : BD w A.drew h (need n) s D := ⟨hi.keep HH.out (Keep.ofBelow (Wire.bd A 1)), hK⟩
    generalize stream s (need n) = X at HC hsl hXl
    generalize bytes s n = R at *
    clear hi hK hXl hnl
    gi_wp2
    refine wpIn_wide.2 ?_
    refine QTail.region (C := fun B => BD w B h (need n) s D) 5 (by kernel_rfl) (by kernel_rfl) Y ?_
    (refine wpQuiet_step (fun K hK => ?_); go_simp; refine ⟨_, fun W hW => HC.out W hW, hK _ ?_⟩; clear hK K)
    (refine wpQuiet_step (fun K hK => ?_); go_simp; refine ⟨_, fun _ _ => rfl, hK _ ?_⟩; clear hK K)
    (refine wpQuiet_step (fun K hK => ?_); go_simp; refine ⟨.string ⟨R.toArray⟩, fun W hW => ?_, hK _ ?_⟩; (first | exact ⟨rfl, rfl⟩ | rfl | (rw [hsl W]; exact ⟨rfl, rfl⟩)); clear hK K)
    refine QTail.loadC (by rfl) 33 (.tmp 7) rfl (h + 1 + 1 + 1) 0 rfl [.string ⟨(after s (need n)).toArray⟩] _ HR Tryd.underlying33 rfl (by kernel_rfl) ?_
    (refine wpQuiet_step (fun K hK => ?_); go_simp; refine ⟨_, fun _ _ => rfl, hK _ ?_⟩; clear hK K)
    refine wpQuiet_nil ?_
    clear Y
    rintro w2 ⟨Y, hD2⟩
    obtain ⟨y, hy0⟩ := Y.res
    have hy := hy0.arr
    have hbelY := Y.bel
    generalize after s (need n) = S at *
    refine wpList_store_mid rfl 33 (.tmp 5) (.tmp 32) rfl (h + 1) 0 #[.string ⟨S.toArray⟩] rfl rfl hy.there (by kernel_rfl) (by simp [Value.oneCell']) ?_
    have hD3 : (w2.setCells (h + 1) 0 [.string ⟨S.toArray⟩]).heap[D]? = some (.deferred (some [])) := (Rng.cells_other _ D (by have := HW.out; omega) _ _ _).trans hD2
    have hbel : Below w.heap.size w (w2.setCells (h + 1) 0 [.string ⟨S.toArray⟩]) := hbelY.trans (Hash.below_cells (by have := HH.out; omega) _ _ _)
    have hld : (loadVar 33 ⟨h + 1, 0, none⟩).run Tryd.prog ((w2.setCells (h + 1) 0 [.string ⟨S.toArray⟩]).putObj D (.deferred none)) = .ok (.agg #[.string ⟨S.toArray⟩]) ((w2.setCells (h + 1) 0 [.string ⟨S.toArray⟩]).putObj D (.deferred none)) := by
      have hw := HH.out
      have ha := Rng.keepArr (hy.over (ys := [.string ⟨S.toArray⟩]) rfl) (Keep.putObj (p := fun k _ => k = D) (w2.setCells (h + 1) 0 [.string ⟨S.toArray⟩]) D (.deferred none) fun _ _ => rfl) (by omega) (fun _ => by have := HW.out; omega)
      exact run_loadVar_mid _ _ _ _ _ _ ha.range Tryd.underlying33 rfl (by kernel_rfl)
    have hbe2 : Below w.heap.size w ((w2.setCells (h + 1) 0 [.string ⟨S.toArray⟩]).putObj D (.deferred none)) := (Keep.putObj (p := fun k _ => k = D) (w2.setCells (h + 1) 0 [.string ⟨S.toArray⟩]) D (.deferred none) fun _ _ => rfl).below hbel hbel.size (fun k _ hk => by have := HW.out; have := HH.out; omega)
    rename_i K hK
    refine hK _ _ ?_
    clear hK K hD2 hy hy0 Y hbel hbelY HC HR
    simp only [Act.put]
    gi_wp2
    refine ⟨by simp, .inl ⟨_, _, rfl, run_takeDeferred hD3, ?_⟩⟩
    refine ⟨.tuple #[.string ⟨R.toArray⟩, .agg #[.string ⟨S.toArray⟩]], ?_, rfl, hbe2⟩
    simp [results, Tryd.results19, asAddr]
    rw [hld]
    rfl
  case stop =>
    rintro D c pre A hD hF
    exact hF.elim

theorem bytes_any (s : List UInt8) (n : Int) (w : World) (hs : s.length ≤ 100000) (ht : Table 1 w) :
    Calls Tryd.prog 19 #[.agg #[.string ⟨s.toArray⟩], .int .i64 n] w (GivesR (bytesR s n).1 (bytesR s n).2 w) := by
  unfold bytesR
  by_cases h : n < 0 ∨ 8000 < n
  · rw [if_pos h]; exact bytes_out s n w h ht
  · rw [if_neg h]
    have := bytes_ok s n.toNat w hs (by omega) ht
    rwa [show ((n.toNat : Nat) : Int) = n by omega] at this

/-- All that the package answers. -/
theorem pkg : Pkg := ⟨derive_any, path_any, next_any, bytes_any⟩

end Kdf
end Go.Proofs.YtoenkckoomfgeaaDoor
