/- ShaF; MEx; MSane: what each of these parts proves stands ahead of it. -/
import Derived.Test.YthpkeaafgabjiaaDoorZSha
import Derived.Test.YthpkeaafgabjiaaDoorM16
import Derived.Test.YthpkeaafgabjiaaDoorM22
/- SHA-256 and HMAC for the kernel to evaluate: each step is forced. No condition. -/
namespace Go.Proofs.YthpkeaafgabjiaaDoor
namespace Hash
def blocksF (l : List UInt8) : Nat → List Nat
  | 0 => h0
  | n + 1 => compF (blocksF l n) ((l.drop (64 * n)).take 64)
theorem blocksF_eq (l : List UInt8) : ∀ n, blocksF l n = blocks l n
  | 0 => rfl
  | n + 1 => by simp only [blocksF, blocks, compF_eq, blocksF_eq l n]
def shaF (l : List UInt8) : List UInt8 := (blocksF (pad l) ((pad l).length / 64)).flatMap wordBytes
theorem shaF_eq (l : List UInt8) : shaF l = sha l := by simp only [shaF, sha, blocksF_eq]
def keyBlockF (key : List UInt8) (m : UInt8) : List UInt8 := (key ++ zeros (64 - key.length)).map (· ^^^ m)
def macF (key text : List UInt8) : List UInt8 := shaF (keyBlockF key 0x5c ++ shaF (keyBlockF key 0x36 ++ text))
theorem macF_eq (key text : List UInt8) (h : ¬ 64 < key.length) : macF key text = mac key text := by
  simp only [macF, mac, shaF_eq, keyBlock, keyBlockF, if_neg h]
theorem enc0 : Wire.enc 0 = [128] := by simp [Wire.enc, Wire.magn, Wire.digs_zero, Wire.head]
theorem enc1 : Wire.enc 1 = [129, 1] := by simp [Wire.enc, Wire.magn, Wire.digs_pos, Wire.digs_zero, Wire.head, Wire.flip]

end Hash
end Go.Proofs.YthpkeaafgabjiaaDoor

/- The digests of the statements' examples, and that their root is another digest than zero. No condition. -/
namespace Go.Proofs.YthpkeaafgabjiaaDoor
namespace Mk
open Wire (bv sv Lies)
def dgt (c : UInt8) : List UInt8 := [c, 0, 0, 0, 0, 0, 0, 0, 0, 0, 0, 0, 0, 0, 0, 0]
def l3 : List (List UInt8) := [dgt 1, dgt 2, dgt 3]
theorem split3 : split 3 = 2 := split_eq ⟨⟨1, rfl⟩, by decide, by decide⟩
theorem split2 : split 2 = 1 := split_eq ⟨⟨0, rfl⟩, by decide, by decide⟩
theorem root3 : root HH l3 = HH.node (HH.node (HH.leaf (dgt 1)) (HH.leaf (dgt 2))) (HH.leaf (dgt 3)) := by
  rw [root_two HH (l := l3) (by decide)]
  show HH.node (root HH (l3.take (split 3))) (root HH (l3.drop (split 3))) = _
  rw [split3]
  show HH.node (root HH [dgt 1, dgt 2]) (root HH [dgt 3]) = _
  rw [root_two HH (l := [dgt 1, dgt 2]) (by decide)]
  show HH.node (HH.node (root HH ([dgt 1, dgt 2].take (split 2))) (root HH ([dgt 1, dgt 2].drop (split 2)))) (root HH [dgt 3]) = _
  rw [split2]
  show HH.node (HH.node (root HH [dgt 1]) (root HH [dgt 2])) (root HH [dgt 3]) = _
  rw [root_one, root_one, root_one]
theorem enc16 : Wire.enc 16 = [129, 16] := by simp [Wire.enc, Wire.magn, Wire.digs_pos, Wire.digs_zero, Wire.head, Wire.flip]
def leafF (d : List UInt8) : List UInt8 := (Hash.shaF (1 :: ([129, 16] ++ d))).take 16
def nodeF (a b : List UInt8) : List UInt8 := (Hash.shaF (2 :: ([129, 16] ++ a ++ ([129, 16] ++ b)))).take 16
theorem encS {d : List UInt8} (h : d.length = 16) : Wire.encStr d = [129, 16] ++ d := by
  unfold Wire.encStr
  rw [h, show ((16 : Nat) : Int) = 16 from rfl, enc16]
theorem leafF_eq {d : List UInt8} (h : d.length = 16) : HH.leaf d = leafF d := by
  show (Hash.sha (Hash.ofIn 1 [d])).take 16 = _
  unfold leafF Hash.ofIn
  rw [Hash.shaF_eq, List.flatMap_cons, List.flatMap_nil, List.append_nil, encS h]
  rfl
theorem nodeF_eq {a b : List UInt8} (ha : a.length = 16) (hb : b.length = 16) : HH.node a b = nodeF a b := by
  show (Hash.sha (Hash.ofIn 2 [a, b])).take 16 = _
  unfold nodeF Hash.ofIn
  rw [Hash.shaF_eq, List.flatMap_cons, List.flatMap_cons, List.flatMap_nil, List.append_nil, encS ha, encS hb]
  rfl
theorem root3_ne : root HH l3 ≠ zero := by
  rw [root3, nodeF_eq (node_length _ _) (leaf_length _), nodeF_eq (leaf_length _) (leaf_length _), leafF_eq (d := dgt 1) rfl, leafF_eq (d := dgt 2) rfl, leafF_eq (d := dgt 3) rfl]
  decide +kernel
end Mk
end Go.Proofs.YthpkeaafgabjiaaDoor

/- The examples of the statements on merkle. Conditions: what the package answers, the tables are laid. -/
namespace Go.Proofs.YthpkeaafgabjiaaDoor
open Go.RowKit
namespace Mk
open Wire (bv sv Lies)
open Hash (Arr bcj)

theorem ok3 : Ok l3 := fun d hd => by
  simp only [l3, List.mem_cons, List.not_mem_nil, or_false] at hd
  rcases hd with rfl | rfl | rfl <;> rfl
/-- The three digests of the examples. -/
structure S3 (w W : World) : Prop where
  l : LiesD W W.heap.size (some ⟨w.heap.size, 0, none⟩) 3 3 l3
  z : Below w.heap.size w W
theorem S3.on {w W W' : World} (h : S3 w W) (hb : Below W.heap.size W W') : S3 w W' := ⟨h.l.on hb, bcj h.z hb⟩
theorem s3_new (w : World) (t : TypeId) : S3 w (w.alloc (.cells #[.int .u8 1, .int .u8 0, .int .u8 0, .int .u8 0, .int .u8 0, .int .u8 0, .int .u8 0, .int .u8 0, .int .u8 0, .int .u8 0, .int .u8 0, .int .u8 0, .int .u8 0, .int .u8 0, .int .u8 0, .int .u8 0, .int .u8 2, .int .u8 0, .int .u8 0, .int .u8 0, .int .u8 0, .int .u8 0, .int .u8 0, .int .u8 0, .int .u8 0, .int .u8 0, .int .u8 0, .int .u8 0, .int .u8 0, .int .u8 0, .int .u8 0, .int .u8 0, .int .u8 3, .int .u8 0, .int .u8 0, .int .u8 0, .int .u8 0, .int .u8 0, .int .u8 0, .int .u8 0, .int .u8 0, .int .u8 0, .int .u8 0, .int .u8 0, .int .u8 0, .int .u8 0, .int .u8 0, .int .u8 0] t)) := by
  have h := Hash.arr_new w #[.int .u8 1, .int .u8 0, .int .u8 0, .int .u8 0, .int .u8 0, .int .u8 0, .int .u8 0, .int .u8 0, .int .u8 0, .int .u8 0, .int .u8 0, .int .u8 0, .int .u8 0, .int .u8 0, .int .u8 0, .int .u8 0, .int .u8 2, .int .u8 0, .int .u8 0, .int .u8 0, .int .u8 0, .int .u8 0, .int .u8 0, .int .u8 0, .int .u8 0, .int .u8 0, .int .u8 0, .int .u8 0, .int .u8 0, .int .u8 0, .int .u8 0, .int .u8 0, .int .u8 3, .int .u8 0, .int .u8 0, .int .u8 0, .int .u8 0, .int .u8 0, .int .u8 0, .int .u8 0, .int .u8 0, .int .u8 0, .int .u8 0, .int .u8 0, .int .u8 0, .int .u8 0, .int .u8 0, .int .u8 0] t
  refine ⟨⟨⟨rfl, Nat.le_refl _, by decide, fun _ => ⟨_, _, rfl⟩, fun _ => ⟨w.heap.size, 0, rfl, by rw [World.size_alloc]; omega, fun j u hu => ?_⟩⟩, ok3⟩, Wire.b1 _ _⟩
  exact h.range j u hu
theorem S3.cut {w W : World} (h : S3 w W) : LiesD W W.heap.size (some ⟨w.heap.size, 0, none⟩) 1 3 [dgt 1] := h.l.take (k := 1) (by decide)
/-- And their root. -/
structure S4 (w W : World) (g : Nat) (R : List UInt8) : Prop where
  s : S3 w W
  r : Dg W g R
theorem S4.on {w W W' : World} {g : Nat} {R : List UInt8} (h : S4 w W g R) (hb : Below W.heap.size W W') : S4 w W' g R := ⟨h.s.on hb, h.r.on hb⟩
/-- What stands in the loop. -/
structure Sl (w W : World) (g : Nat) (R : List UInt8) (g2 i : Nat) (B : Option Addr) (q e : Nat) (A3 A4 : Option Addr) (c3 c4 : Nat) (P2 Q1 : List (List UInt8)) : Prop where
  l3 : LiesD W g2 (some ⟨w.heap.size, 0, none⟩) 3 3 l3
  z : Below w.heap.size w W
  hw : w.heap.size ≤ g2
  r : Arr W g 16 (R.map bv)
  hg : g < g2
  k : Pk W g2 (i : Int) B q e
  l : OwnD W (g2 + 1) (.slice B q e) q (Mk.pk HH (Mk.l3.take i))
  p : LiesD W g2 A3 1 c3 P2
  q : LiesD W g2 A4 2 c4 Q1
section
variable {w W W' : World} {g : Nat} {R : List UInt8} {g2 i : Nat} {B : Option Addr} {q e : Nat} {A3 A4 : Option Addr} {c3 c4 : Nat} {P2 Q1 : List (List UInt8)}
theorem Sl.on (h : Sl w W g R g2 i B q e A3 A4 c3 c4 P2 Q1) (hb : Below W.heap.size W W') : Sl w W' g R g2 i B q e A3 A4 c3 c4 P2 Q1 := by
  have h1 := h.k.lt
  have h2 := h.hg
  exact ⟨h.l3.below (hb.mono (by omega)), bcj h.z hb, h.hw, h.r.below hb (by omega), h.hg, h.k.on hb, h.l.on hb, h.p.below (hb.mono (by omega)), h.q.below (hb.mono (by omega))⟩
theorem Sl.put (h : Sl w W g R g2 i B q e A3 A4 c3 c4 P2 Q1) {i' : Nat} {B' : Option Addr} {q' e' : Nat} (hl : OwnD W (g2 + 1) (.slice B' q' e') q' (Mk.pk HH (Mk.l3.take i'))) : Sl w (W.setCells g2 0 [.int .i64 (i' : Int), .slice B' q' e']) g R g2 i' B' q' e' A3 A4 c3 c4 P2 Q1 := by
  have hb := Hash.below_cells (B := g2) (g := g2) (Nat.le_refl _) [.int .i64 (i' : Int), .slice B' q' e'] 0 W
  have h2 := h.hg
  exact ⟨h.l3.below hb, h.z.trans (hb.mono h.hw), h.hw, h.r.aside (by omega) _, h.hg, ⟨h.k.arr.over rfl⟩, hl.cells (by omega) _ _, h.p.below hb, h.q.below hb⟩
theorem Sl.more (h : Sl w W g R g2 i B q e A3 A4 c3 c4 P2 Q1) : LiesD W W.heap.size (some ⟨w.heap.size, 0, none⟩) 3 3 Mk.l3 := h.l3.more (Nat.le_of_lt h.k.lt)
theorem Sl.roots (h : Sl w W g R g2 i B q e A3 A4 c3 c4 P2 Q1) : LiesD W W.heap.size B q e (Mk.pk HH (Mk.l3.take i)) := by
  obtain ⟨A', c', e1, hL⟩ := h.l.form
  cases e1
  exact hL
end
theorem exec_row {P : Program} {ρ : Operand → Value} {o : Oper} {W : World} (ty : TypeId) (x : Operand) (ho : o.op = .load ty x) (b off : Nat) (hx : ρ x = .pointer (some ⟨b, off, none⟩)) (cs : List Value) (d : TypeDesc) (hc : W.rangeAt b off cs)
    (hu : P.underlying ty = some d) (hd : d.isRow = true) (hi : (P.info? ty).map (·.size) = some cs.length) : (execOp ρ o).run P W = .ok (.value (.agg cs.toArray)) W := by
  have hl := run_loadVar_mid (P := P) W b off ty cs d hc hu hd hi
  unfold execOp
  simp only [ho, hx, Instr.loadAt, Instr.sureAddr, Sem.run_bind, Sem.run_pure, Result.andThen_ok, hl]
theorem prove_len3 : (prove HH l3 2).length = 1 := by
  rw [prove_high HH (l := l3) (by decide) (by show ¬ 2 < split 3; rw [split3]; decide), List.length_append]
  show (prove HH (l3.drop (split 3)) (2 - split 3)).length + 1 = 1
  rw [split3, prove_one HH (by decide)]
  rfl
theorem sub_len3 : (sub HH l3 1 true).length = 2 := by
  rw [sub_low HH (l := l3) (by decide) (by decide) (by show 1 ≤ split 3; rw [split3]; decide), List.length_append]
  show (sub HH (l3.take (split 3)) 1 true).length + 1 = 2
  rw [split3]
  show (sub HH [dgt 1, dgt 2] 1 true).length + 1 = 2
  rw [sub_low HH (l := [dgt 1, dgt 2]) (by decide) (by decide) (by show 1 ≤ split 2; rw [split2]; decide), List.length_append]
  show (sub HH ([dgt 1, dgt 2].take (split 2)) 1 true).length + 1 + 1 = 2
  rw [split2]
  show (sub HH [dgt 1] 1 true).length + 1 + 1 = 2
  rw [sub_whole HH (l := [dgt 1]) (m := 1) rfl]
  rfl
theorem clash_same : clashOf (inpI 1 0 (dgt 1) []) (inpI 1 0 (dgt 1) []) = none := by
  have e : inpI 1 0 (dgt 1) [] = some [HH.li (dgt 1)] := by
    unfold inpI
    rw [if_pos (by decide)]
    show inputs HH [] 1 0 (dgt 1) = _
    rw [inputs, if_pos rfl]
  rw [e]
  show (if HH.sh (HH.li (dgt 1)) = HH.sh (HH.li (dgt 1)) then firstDiff [HH.li (dgt 1)] [HH.li (dgt 1)] else none) = none
  rw [if_pos rfl, firstDiff, if_pos rfl]
  rfl

set_option maxRecDepth 100000 in
set_option maxHeartbeats 4000000 in
theorem sanity_any (pk : Pkg) (w : World) (ht : TP w) : Calls Tryd.prog 10 #[] w (GivesT true w) := by
  have hb1 : ∀ W, (Instr.build 29 #[(0, .int .u8 1)]).run Tryd.prog W = .ok (.agg #[.int .u8 1, .int .u8 0, .int .u8 0, .int .u8 0, .int .u8 0, .int .u8 0, .int .u8 0, .int .u8 0, .int .u8 0, .int .u8 0, .int .u8 0, .int .u8 0, .int .u8 0, .int .u8 0, .int .u8 0, .int .u8 0]) W := fun W => by kernel_rfl
  have hb2 : ∀ W, (Instr.build 29 #[(0, .int .u8 2)]).run Tryd.prog W = .ok (.agg #[.int .u8 2, .int .u8 0, .int .u8 0, .int .u8 0, .int .u8 0, .int .u8 0, .int .u8 0, .int .u8 0, .int .u8 0, .int .u8 0, .int .u8 0, .int .u8 0, .int .u8 0, .int .u8 0, .int .u8 0, .int .u8 0]) W := fun W => by kernel_rfl
  have hb3 : ∀ W, (Instr.build 29 #[(0, .int .u8 3)]).run Tryd.prog W = .ok (.agg #[.int .u8 3, .int .u8 0, .int .u8 0, .int .u8 0, .int .u8 0, .int .u8 0, .int .u8 0, .int .u8 0, .int .u8 0, .int .u8 0, .int .u8 0, .int .u8 0, .int .u8 0, .int .u8 0, .int .u8 0, .int .u8 0]) W := fun W => by kernel_rfl
  have Y := s3_new w 29
  have HR : Hid (∀ W, S3 w W → Calls Tryd.prog 16 #[.slice (some ⟨w.heap.size, 0, none⟩) 3 3] W (Hash.GivesA ((root HH l3).map bv) W)) := Lib.hid (fun W h => pk.root 3 3 _ l3 W (by decide) h.l (ht.on h.z))
  have HP : Hid (∀ W, S3 w W → Calls Tryd.prog 11 #[.slice (some ⟨w.heap.size, 0, none⟩) 3 3, .int .i64 2] W (GivesP (prove HH l3 2) 0 W)) := Lib.hid (fun W h => pk.prove 3 3 2 _ l3 W (by decide) h.l (ht.on h.z) (by decide))
  have HQ : Hid (∀ W, S3 w W → Calls Tryd.prog 13 #[.slice (some ⟨w.heap.size, 0, none⟩) 3 3, .int .i64 1] W (GivesP (sub HH l3 1 true) 0 W)) := Lib.hid (fun W h => pk.provePre 3 3 1 _ l3 W (by decide) h.l (ht.on h.z) (by decide) (by decide))
  have HN : Hid (∀ W, S3 w W → Calls Tryd.prog 11 #[.slice (some ⟨w.heap.size, 0, none⟩) 3 3, .int .i64 3] W (GivesP [] 11 W)) := Lib.hid (fun W h => pk.proveNo 3 3 _ l3 3 W (by decide) h.l (ht.on h.z) (by decide))
  have HC : Hid (∀ W, S3 w W → Calls Tryd.prog 22 #[.int .i64 1, .int .i64 0, .agg #[.int .u8 1, .int .u8 0, .int .u8 0, .int .u8 0, .int .u8 0, .int .u8 0, .int .u8 0, .int .u8 0, .int .u8 0, .int .u8 0, .int .u8 0, .int .u8 0, .int .u8 0, .int .u8 0, .int .u8 0, .int .u8 0], .agg #[.int .u8 1, .int .u8 0, .int .u8 0, .int .u8 0, .int .u8 0, .int .u8 0, .int .u8 0, .int .u8 0, .int .u8 0, .int .u8 0, .int .u8 0, .int .u8 0, .int .u8 0, .int .u8 0, .int .u8 0, .int .u8 0], .slice none 0 0, .slice none 0 0] W (GivesC3 none W)) := Lib.hid (fun W h => by
    have h1 := pk.clash 1 0 (dgt 1) (dgt 1) 0 0 0 0 none none [] [] W rfl rfl (by decide) (by decide) (by decide) (liesD_nil _ _ _) (liesD_nil _ _ _) (ht.on h.z)
    rw [clash_same] at h1
    exact h1)
  have HTOP : Hid (∀ W B q e, LiesD W W.heap.size B q e (Mk.pk HH l3) → Below w.heap.size w W → Calls Tryd.prog 29 #[pkv 3 B q e] W (GivesZ (root HH l3) 0 W)) := Lib.hid (fun W B q e hL hz => by
    have hq : q = ones 3 := by rw [← hL.len, pk_length HH _ l3 rfl]; rfl
    have hok : pkOk 3 q = true := by
      unfold pkOk
      simp only [Bool.and_eq_true, decide_eq_true_eq]
      exact ⟨by decide, by decide, hq⟩
    have h1 := pk.top 3 B q e _ W hL (ht.on hz) hok
    rwa [topOf_pk HH _ l3 rfl] at h1)
  have HTB : Hid (∀ W, Below w.heap.size w W → Calls Tryd.prog 29 #[pkv 2 none 0 0] W (GivesZ zero 1 W)) := Lib.hid (fun W hz => by
    refine pk.topNo 2 none 0 0 [] W (liesD_nil _ _ _) (ht.on hz) ?_
    have ho : ones (2 : Int).toNat = 1 := by show ones 2 = 1; rw [ones_half, ones_half, ones_zero]
    unfold pkOk
    rw [ho]
    rfl)
  have HVE : Hid (∀ W A3 c3, LiesD W W.heap.size A3 1 c3 (prove HH l3 2) → Below w.heap.size w W → Calls Tryd.prog 18 #[dv (root HH l3), .int .i64 3, .int .i64 2, .agg #[.int .u8 3, .int .u8 0, .int .u8 0, .int .u8 0, .int .u8 0, .int .u8 0, .int .u8 0, .int .u8 0, .int .u8 0, .int .u8 0, .int .u8 0, .int .u8 0, .int .u8 0, .int .u8 0, .int .u8 0, .int .u8 0], .slice A3 1 c3] W (GivesT true W)) := Lib.hid (fun W A3 c3 hL hz => by
    have h1 := pk.verify (root HH l3) (dgt 3) 3 2 1 c3 A3 _ W (root_length _) rfl (by decide) (by decide) hL (ht.on hz)
    have h2 := ver_true (l := l3) (k := 2) (d := dgt 3) rfl (root HH l3)
    rw [show ((l3.length : Nat) : Int) = 3 from rfl, show ((2 : Nat) : Int) = 2 from rfl, show (root HH l3 == root HH l3) = true by simp] at h2
    rw [h2] at h1
    exact h1)
  have HRC : Hid (∀ W, LiesD W W.heap.size (some ⟨w.heap.size, 0, none⟩) 1 3 [dgt 1] → Below w.heap.size w W → Calls Tryd.prog 16 #[.slice (some ⟨w.heap.size, 0, none⟩) 1 3] W (Hash.GivesA ((root HH [dgt 1]).map bv) W)) := Lib.hid (fun W hL hz => pk.root 1 3 _ _ W (by decide) hL (ht.on hz))
  have HVP : Hid (∀ W A4 c4, LiesD W W.heap.size A4 2 c4 (sub HH l3 1 true) → Below w.heap.size w W → Calls Tryd.prog 20 #[.agg ((root HH [dgt 1]).map bv).toArray, .agg ((root HH l3).map bv).toArray, .int .i64 1, .int .i64 3, .slice A4 2 c4] W (GivesT true W)) := Lib.hid (fun W A4 c4 hL hz => by
    have h1 := pk.verifyPre (root HH [dgt 1]) (root HH l3) 1 3 2 c4 A4 _ W (root_length _) (root_length _) (by decide) (by decide) hL (ht.on hz)
    have h2 := pre_true (l := l3) (m := 1) (by decide) (by decide) (root HH l3)
    rw [show ((l3.length : Nat) : Int) = 3 from rfl, show ((1 : Nat) : Int) = 1 from rfl, show (root HH l3 == root HH l3) = true by simp, show l3.take 1 = [dgt 1] from rfl] at h2
    rw [h2] at h1
    exact h1)
  have E1 := Lib.hid (fun W => eql_d (root HH l3) (root HH l3) (root_length _) (root_length _) W)
  rw [show (root HH l3 == root HH l3) = true by simp] at E1
  have E2 := Lib.hid (fun W => neq_d (root HH l3) zero (root_length _) zero_length W)
  rw [show (!(root HH l3 == zero)) = true by simpa using root3_ne] at E2
  have E3 := Lib.hid (fun W => eq_d (root HH l3) zero (root_length _) zero_length W)
  rw [show (root HH l3 == zero) = false by simpa using root3_ne] at E3
  have hbz : ∀ W, (Instr.build 29 #[]).run Tryd.prog W = .ok (.agg (zero.map bv).toArray) W := fun W => by kernel_rfl
  have HZ := Lib.hid zero_length
  have E4 : Hid (∀ W, (Op.equalIn 10000 29 (.agg ((root HH l3).map bv).toArray) (.agg #[.int .u8 0, .int .u8 0, .int .u8 0, .int .u8 0, .int .u8 0, .int .u8 0, .int .u8 0, .int .u8 0, .int .u8 0, .int .u8 0, .int .u8 0, .int .u8 0, .int .u8 0, .int .u8 0, .int .u8 0, .int .u8 0])).run Tryd.prog W = .ok false W) := Lib.hid (fun W => E3.out W)
  have HTL := Lib.hid (root_length [dgt 1])
  have HL1 := Lib.hid prove_len3
  have HL2 := Lib.hid sub_len3
  have HRL := Lib.hid (root_length l3)
  generalize root HH l3 = R at *
  generalize root HH [dgt 1] = T at *
  generalize prove HH l3 2 = P2 at *
  generalize sub HH l3 1 true = Q1 at *
  have HTT := Lib.hid ht
  clear ht
  go_enter Tryd.func10, Tryd.ntmps10
  go_wp2_with (first
    | (go_at_call 16; (with_reducible refine (HR.out _ Y).mono ?_); rintro e w1 ⟨rfl, hb⟩; replace Y := Y.on hb; clear hb)
    | (refine store_d (.tmp 2) (.tmp 27) rfl rfl w1.heap.size 0 rfl R rfl HRL.out (dg_zero w1 _).there ?_; refine Hash.gen_world (Pq := fun W => S4 w W w1.heap.size R) (G := fun W => wpList _ _ _ _ _ W) ⟨Y.on (d_new w1 HRL.out _).1, (d_new w1 HRL.out _).2⟩ ?_; clear Y; intro W2 Y)
    | (go_at_call 11; (with_reducible refine (HP.out _ Y.s).mono ?_); rintro e w3 ⟨v3, n3, rfl, ho, hb⟩; obtain rfl : n3 = 1 := (by rw [← ho.len]; exact HL1.out); obtain ⟨A3, c3, rfl, hL⟩ := ho.form; have HL3 := Lib.hid hL; replace Y := Y.on hb; clear hb ho hL)
    | (go_at_call 13; (with_reducible refine (HQ.out _ Y.s).mono ?_); rintro e w4 ⟨v4, n4, rfl, ho, hb⟩; obtain rfl : n4 = 2 := (by rw [← ho.len]; exact HL2.out); obtain ⟨A4, c4, rfl, hL⟩ := ho.form; have HL4 := Lib.hid hL; replace HL3 := Lib.hid (HL3.out.on hb); replace Y := Y.on hb; clear hb ho hL)
    | (go_at_call 11; (with_reducible refine (HN.out _ Y.s).mono ?_); rintro e w5 ⟨v5, n5, rfl, -, hb⟩; replace HL3 := Lib.hid (HL3.out.on hb); replace HL4 := Lib.hid (HL4.out.on hb); replace Y := Y.on hb; clear hb)
    | (go_at_call 22; (with_reducible refine (HC.out _ Y.s).mono ?_); rintro e w6 ⟨A6, n6, c6, B6, m6, k6, rfl, hb, -, -⟩; replace HL3 := Lib.hid (HL3.out.on hb); replace HL4 := Lib.hid (HL4.out.on hb); replace Y := Y.on hb; clear hb)
    | (refine build_k0 rfl rfl ?_)
    | (refine store_k (.tmp 12) (.tmp 50) rfl rfl w6.heap.size rfl (n := 0) (A := none) (k := 0) (c := 0) rfl (pk_new w6 0 none 0 0 _).arr.there ?_; refine Hash.gen_world (Pq := fun W => Sl w W w1.heap.size R w6.heap.size 0 none 0 0 A3 A4 c3 c4 P2 Q1) (G := fun W => wpList _ _ _ _ _ W) (by
        have h7 := k_new w6 0 none 0 0 56
        have h0 := ownD_nil ((w6.alloc (.cells #[.int .i64 0, .slice none 0 0] 56)).setCells w6.heap.size 0 [.int .i64 0, .slice none 0 0]) (w6.heap.size + 1)
        rw [show ([] : List (List UInt8)) = Mk.pk HH (l3.take 0) from (pk_nil HH).symm] at h0
        exact ⟨Y.s.l.below h7.1, bcj Y.s.z h7.1, Y.s.z.size, Y.r.arr.below h7.1 Y.r.lt, Y.r.lt, h7.2, h0, HL3.out.below h7.1, HL4.out.below h7.1⟩) ?_; clear Y HL3 HL4; intro W7 YS))
  generalize w6.heap.size = g2 at *
  generalize w1.heap.size = g at *
  have HAD : Hid (∀ W (i : Nat) B q e d, i < 3 → l3[i]? = some d → LiesD W W.heap.size B q e (Mk.pk HH (l3.take i)) → Below w.heap.size w W → Calls Tryd.prog 28 #[.agg #[.int .i64 (i : Int), .slice B q e], .agg (d.map bv).toArray] W (GivesK ((i : Int) + 1) (Mk.pk HH (l3.take (i + 1))) 0 W)) := Lib.hid (fun W i B q e d hi hd hL hz => by
    have hlen : (l3.take i).length = i := by rw [List.length_take]; show min i 3 = i; omega
    have hq : q = ones i := by rw [← hL.len, pk_length HH _ (l3.take i) rfl, hlen]
    have hok : pkOk (i : Int) q = true := by
      unfold pkOk
      simp only [Bool.and_eq_true, decide_eq_true_eq, Int.toNat_natCast]
      exact ⟨by omega, by omega, hq⟩
    have h1 := pk.add i B q e _ d W (ok3.at_ hd) hL (HTT.out.on hz) hok (by omega)
    have h2 := added_pk HH _ (l3.take i) d rfl
    rw [hlen, show l3.take i ++ [d] = l3.take (i + 1) by rw [List.take_add_one, hd]; rfl] at h2
    rwa [h2] at h1)
  go_loopw [13] (fun iv wr => ∃ (i : Nat) (B : Option Addr) (q e : Nat), i ≤ 3 ∧ iv = .int .i64 (i : Int) ∧ Sl w wr g R g2 i B q e A3 A4 c3 c4 P2 Q1) (fun iv _ => (3 - intOf iv).toNat)
  case atStart => exact ⟨0, none, 0, 0, by omega, rfl, YS⟩
  case round =>
    clear YS
    obtain ⟨i, B, q, e, hi, rfl, Y⟩ := hrel
    by_cases hlt : i < 3
    · obtain ⟨d, hd⟩ : ∃ d, l3[i]? = some d := ⟨_, List.getElem?_eq_getElem hlt⟩
      have HDL := Lib.hid (ok3.at_ hd)
      have HD := Lib.hid hd
      have z0 : (i : Int) < 3 := by omega
      have z1 : (0 : Int) ≤ (i : Int) := by omega
      clear hd
      go_wp2
      replace Y := Y.on (Hash.belowD _)
      refine RegC.region (fun W => Sl w W g R g2 i B q e A3 A4 c3 c4 P2 Q1) [6, 7, 8, 10, 11] (by kernel_rfl) ?_
      (refine RegC.take (i := 1) (v := ?_) rfl (by kernel_rfl) (by kernel_rfl) (by kernel_rfl) (by kernel_rfl) (by kernel_rfl) (fun _ _ _ h => h) (Or.inl ⟨by rfl, ?_⟩) Y ?_; rotate_left 1; focus (intro W hW; go_simp; try (first | with_reducible rfl | (rw [if_pos (by omega)]; done))))
      (refine RegC.take (i := 2) (v := ?_) rfl (by kernel_rfl) (by kernel_rfl) (by kernel_rfl) (by kernel_rfl) (by kernel_rfl) (fun _ _ _ h => h) (Or.inl ⟨by rfl, ?_⟩) Y ?_; rotate_left 1; focus (intro W hW; go_simp; try (first | with_reducible rfl | (rw [if_pos (by omega)]; done))))
      (refine RegC.take (i := 3) (v := .pointer (some ⟨w.heap.size, i * 16, none⟩)) rfl (by kernel_rfl) (by kernel_rfl) (by kernel_rfl) (by kernel_rfl) (by kernel_rfl) (fun _ _ _ h => h) (Or.inl ⟨by rfl, ?_⟩) Y ?_; focus (intro W hW; go_simp; try (first | with_reducible rfl | (rw [if_pos (by omega)]; done))))
      refine RegC.take (i := 0) (v := .agg #[.int .i64 (i : Int), .slice B q e]) rfl (by kernel_rfl) (by kernel_rfl) (by kernel_rfl) (by kernel_rfl) (by kernel_rfl) (fun _ _ _ h => h) (Or.inl ⟨by rfl, fun W hW => ?_⟩) Y ?_
      · obtain ⟨dd, h1, h2⟩ := und_k
        exact exec_row 56 (.tmp 12) rfl g2 0 rfl [.int .i64 (i : Int), .slice B q e] dd hW.k.arr.range h1 h2 (info_k _ _ _ _)
      refine RegC.take (i := 4) (v := .agg (d.map bv).toArray) rfl (by kernel_rfl) (by kernel_rfl) (by kernel_rfl) (by kernel_rfl) (by kernel_rfl) (fun _ _ _ h => h) (Or.inl ⟨by rfl, fun W hW => ?_⟩) Y ?_
      · refine exec_row 29 (.tmp 59) rfl w.heap.size (i * 16) rfl (d.map bv) _ ?_ und_d rfl (info_d HDL.out)
        obtain ⟨b', o', e', _, hr'⟩ := hW.more.row HD.out
        simp only [Option.some.injEq, Addr.mk.injEq, and_true] at e'
        obtain ⟨rfl, rfl⟩ := e'
        rwa [Nat.zero_add] at hr'
      refine RegC.ready (rs := [5, 9]) (by kernel_rfl) (by simp) ?_
      refine RegC.cons rfl (fun K hK => ?_) ?_
      · go_simp
        go_wp2_with (first
          | (go_at_call 28; (with_reducible refine (HAD.out _ i B q e d hlt HD.out Y.roots Y.z).mono ?_); rintro e2 w8 ⟨B8, q8, c8, rfl, ho, hb⟩; have HO8 := Lib.hid (ho.more (Nat.succ_le_of_lt Y.k.lt)); replace Y := Y.on hb; clear hb ho))
        refine ⟨fun _ => Y, ?_⟩
        (refine RegC.takeW (i := 6) (v := ?_) rfl (by kernel_rfl) (by kernel_rfl) (by kernel_rfl) (by kernel_rfl) (fun _ _ _ h => h) (Or.inl ⟨by rfl, ?_⟩) ?_; rotate_left 1; focus (intro W; go_simp; try (first | with_reducible rfl | (rw [if_pos (by omega)]; done))))
        (refine RegC.takeW (i := 7) (v := ?_) rfl (by kernel_rfl) (by kernel_rfl) (by kernel_rfl) (by kernel_rfl) (fun _ _ _ h => h) (Or.inl ⟨by rfl, ?_⟩) ?_; rotate_left 1; focus (intro W; go_simp; try (first | with_reducible rfl | (rw [if_pos (by omega)]; done))))
        (refine RegC.takeW (i := 8) (v := ?_) rfl (by kernel_rfl) (by kernel_rfl) (by kernel_rfl) (by kernel_rfl) (fun _ _ _ h => h) (Or.inl ⟨by rfl, ?_⟩) ?_; rotate_left 1; focus (intro W; go_simp; try (first | with_reducible rfl | (rw [if_pos (by omega)]; done))))
        refine RegC.ready (rs := [9]) (by kernel_rfl) (by simp) ?_
        refine RegC.cons rfl (fun K hK => ?_) RegC.nil
        go_simp
        refine hK _ _ ⟨fun _ => Y.on (Wire.b1 _ _), ?_⟩
        refine RegC.rest (by kernel_rfl) ?_
        refine wpAny_tail 10 2 rfl (by kernel_rfl) ?_
        simp only [List.drop_succ_cons, List.drop_zero]
        go_wp2_with (first
          | (refine store_k (.tmp 14) (.tmp 62) rfl rfl w8.heap.size rfl (n := (i : Int) + 1) (A := B8) (k := q8) (c := c8) rfl (pk_new w8 0 none 0 0 _).arr.there ?_; refine Hash.gen_world (Pq := fun W => Sl w W g R g2 i B q e A3 A4 c3 c4 P2 Q1 ∧ Pk W w8.heap.size ((i : Int) + 1) B8 q8 c8 ∧ OwnD W (g2 + 1) (.slice B8 q8 c8) q8 (Mk.pk HH (l3.take (i + 1)))) (G := fun W => wpList _ _ _ _ _ W) ⟨Y.on (k_new w8 _ _ _ _ _).1, (k_new w8 _ _ _ _ _).2, HO8.out.on (k_new w8 _ _ _ _ _).1⟩ ?_; clear Y; intro W9 Y9; obtain ⟨Y, hk9, ho9⟩ := Y9; have HK9 := Lib.hid hk9; have HO9 := Lib.hid ho9; clear hk9 ho9)
          | (refine load_k 64 rfl rfl _ rfl w8.heap.size rfl HK9.out ?_)
          | (refine store_k (.tmp 12) (.tmp 64) rfl rfl g2 rfl (n := (i : Int) + 1) (A := B8) (k := q8) (c := c8) rfl Y.k.arr.there ?_; refine Hash.gen_world (Pq := fun W => Sl w W g R g2 (i + 1) B8 q8 c8 A3 A4 c3 c4 P2 Q1) (G := fun W => wpList _ _ _ _ _ W) (Y.put (i' := i + 1) HO9.out) ?_; clear Y; intro W10 Y))
        go_roundw
        case rel => exact ⟨i + 1, B8, q8, c8, by omega, by go_num, Y⟩
        case measure => simp [intOf]; omega
      · refine RegC.cons rfl (fun K hK => ?_) RegC.nil
        go_simp
        refine hK _ _ ⟨fun _ => Y.on (Wire.b1 _ _), ?_⟩
        have Y0 := Y
        have Y1 : Sl w (World.drew (wr.alloc (.cells #[.int .i64 0, .slice none 0 0] 56))) g R g2 i B q e A3 A4 c3 c4 P2 Q1 := Y.on (Wire.b1 (World.drew wr) (.cells #[.int .i64 0, .slice none 0 0] 56))
        have hp0 : Pk (World.drew (wr.alloc (.cells #[.int .i64 0, .slice none 0 0] 56))) wr.heap.size 0 none 0 0 := pk_new (World.drew wr) 0 none 0 0 _
        have hbl : Below wr.heap.size (World.drew wr) (World.drew (wr.alloc (.cells #[.int .i64 0, .slice none 0 0] 56))) := Wire.b1 (World.drew wr) (.cells #[.int .i64 0, .slice none 0 0] 56)
        have hs14 : (World.drew (wr.alloc (.cells #[.int .i64 0, .slice none 0 0] 56))).heap.size = wr.heap.size + 1 := World.size_alloc _ _
        have hg214 : g2 < wr.heap.size := Y0.k.lt
        have HP0 := Lib.hid hp0
        have HBL := Lib.hid hbl
        have HS14 := Lib.hid hs14
        clear Y hp0 hbl hs14
        have Y := Y1
        clear Y1
        refine RegC.ready (rs := [5]) (by kernel_rfl) (by simp) ?_
        refine RegC.cons rfl (fun K hK => ?_) RegC.nil
        go_simp
        go_wp2_with (first
          | (go_at_call 28; (with_reducible refine (HAD.out _ i B q e d hlt HD.out Y.roots Y.z).mono ?_); rintro e2 w8 ⟨B8, q8, c8, rfl, ho, hb⟩; have HB8 := Lib.hid hb; have HO8 := Lib.hid ho; replace Y := Y.on hb; clear hb ho))
        refine ⟨fun _ => Y, ?_⟩
        refine RegC.rest (by kernel_rfl) ?_
        (refine wpAny_take (i := 6) (v := ?_) rfl (by kernel_rfl) (by kernel_rfl) (by kernel_rfl) (fun _ _ _ h => h) (Or.inl ⟨by rfl, ?_⟩) ?_; rotate_left 1; focus (intro W; go_simp; try (first | with_reducible rfl | (rw [if_pos (by omega)]; done))))
        (refine wpAny_take (i := 7) (v := ?_) rfl (by kernel_rfl) (by kernel_rfl) (by kernel_rfl) (fun _ _ _ h => h) (Or.inl ⟨by rfl, ?_⟩) ?_; rotate_left 1; focus (intro W; go_simp; try (first | with_reducible rfl | (rw [if_pos (by omega)]; done))))
        (refine wpAny_take (i := 8) (v := ?_) rfl (by kernel_rfl) (by kernel_rfl) (by kernel_rfl) (fun _ _ _ h => h) (Or.inl ⟨by rfl, ?_⟩) ?_; rotate_left 1; focus (intro W; go_simp; try (first | with_reducible rfl | (rw [if_pos (by omega)]; done))))
        refine wpAny_tail 10 2 rfl (by kernel_rfl) ?_
        simp only [List.drop_succ_cons, List.drop_zero]
        have HP14 : Hid (Pk w8 wr.heap.size 0 none 0 0) := Lib.hid (HP0.out.on HB8.out)
        have HT14 : Hid (w8.there wr.heap.size 0 2) := Lib.hid HP14.out.arr.there
        have HF14 : Hid (∀ B8 q8 c8, OwnD w8 (World.drew (wr.alloc (.cells #[.int .i64 0, .slice none 0 0] 56))).heap.size (.slice B8 q8 c8) q8 (Mk.pk HH (l3.take (i + 1))) → Sl w (w8.setCells wr.heap.size 0 [.int .i64 ((i : Int) + 1), .slice B8 q8 c8]) g R g2 i B q e A3 A4 c3 c4 P2 Q1 ∧ Pk (w8.setCells wr.heap.size 0 [.int .i64 ((i : Int) + 1), .slice B8 q8 c8]) wr.heap.size ((i : Int) + 1) B8 q8 c8 ∧ OwnD (w8.setCells wr.heap.size 0 [.int .i64 ((i : Int) + 1), .slice B8 q8 c8]) (g2 + 1) (.slice B8 q8 c8) q8 (Mk.pk HH (l3.take (i + 1)))) := Lib.hid (fun B8 q8 c8 h8 => ⟨Y0.on ((HBL.out.trans (HB8.out.mono (by rw [HS14.out]; exact Nat.le_succ _))).trans (Hash.below_cells (Nat.le_refl _) _ _ _)), ⟨HP14.out.arr.over rfl⟩, (h8.cells (by rw [HS14.out]; exact Nat.lt_succ_self _) _ _).more (by rw [HS14.out]; omega)⟩)
        clear Y0 hg214
        go_wp2_with (first
          | (refine store_k (.tmp 14) (.tmp 62) rfl rfl wr.heap.size rfl (n := (i : Int) + 1) (A := B8) (k := q8) (c := c8) rfl HT14.out ?_; refine Hash.gen_world (Pq := fun W => Sl w W g R g2 i B q e A3 A4 c3 c4 P2 Q1 ∧ Pk W wr.heap.size ((i : Int) + 1) B8 q8 c8 ∧ OwnD W (g2 + 1) (.slice B8 q8 c8) q8 (Mk.pk HH (l3.take (i + 1)))) (G := fun W => wpList _ _ _ _ _ W) (HF14.out B8 q8 c8 HO8.out) ?_; clear Y; intro W9 Y9; obtain ⟨Y, hk9, ho9⟩ := Y9; have HK9 := Lib.hid hk9; have HO9 := Lib.hid ho9; clear hk9 ho9)
          | (refine load_k 64 rfl rfl _ rfl wr.heap.size rfl HK9.out ?_)
          | (refine store_k (.tmp 12) (.tmp 64) rfl rfl g2 rfl (n := (i : Int) + 1) (A := B8) (k := q8) (c := c8) rfl Y.k.arr.there ?_; refine Hash.gen_world (Pq := fun W => Sl w W g R g2 (i + 1) B8 q8 c8 A3 A4 c3 c4 P2 Q1) (G := fun W => wpList _ _ _ _ _ W) (Y.put (i' := i + 1) HO9.out) ?_; clear Y; intro W10 Y))
        go_roundw
        case rel => exact ⟨i + 1, B8, q8, c8, by omega, by go_num, Y⟩
        case measure => simp [intOf]; omega
    · have z0 : ¬ (i : Int) < 3 := by omega
      obtain rfl : i = 3 := by omega
      have hL0 := Y.roots
      have HLP := Lib.hid hL0
      have HLQ3 := Lib.hid (Y.p.more (Nat.le_of_lt Y.k.lt))
      have HLQ4 := Lib.hid (Y.q.more (Nat.le_of_lt Y.k.lt))
      have HLM := Lib.hid Y.more
      have HRD : Hid (Dg wr g R) := Lib.hid ⟨Y.r⟩
      have Z := Y.z
      have hkk := Lib.hid Y.k
      clear Y hL0
      go_wp2_with (first
        | (refine load_k 68 rfl rfl _ rfl g2 rfl (n := 3) hkk.out ?_)
        | (go_at_call 29; (with_reducible refine (HTOP.out _ B q e HLP.out Z).mono ?_); rintro e2 w11 ⟨rfl, hb⟩; replace HLQ3 := Lib.hid (HLQ3.out.on hb); replace HLQ4 := Lib.hid (HLQ4.out.on hb); replace HLM := Lib.hid (HLM.out.on hb); replace HRD := Lib.hid (HRD.out.on hb); replace Z := bcj Z hb; clear hb)
        | (refine store_d (.tmp 16) (.tmp 70) rfl rfl w11.heap.size 0 rfl R rfl HRL.out (dg_zero w11 _).there ?_; refine Hash.gen_world (Pq := fun W => Below w11.heap.size w11 W ∧ Dg W w11.heap.size R) (G := fun W => wpList _ _ _ _ _ W) (d_new w11 HRL.out _) ?_; intro W12 h12; replace HLQ3 := Lib.hid (HLQ3.out.on h12.1); replace HLQ4 := Lib.hid (HLQ4.out.on h12.1); replace HLM := Lib.hid (HLM.out.on h12.1); replace HRD := Lib.hid (HRD.out.on h12.1); replace Z := bcj Z h12.1; have HD12 := Lib.hid h12.2; clear h12)
        | (refine build_k (.const (.int .i64 2)) rfl rfl (n := 2) rfl ?_)
        | (go_at_call 29; (with_reducible refine (HTB.out _ Z).mono ?_); rintro e2 w13 ⟨rfl, hb⟩; replace HLQ3 := Lib.hid (HLQ3.out.on hb); replace HLQ4 := Lib.hid (HLQ4.out.on hb); replace HLM := Lib.hid (HLM.out.on hb); replace HRD := Lib.hid (HRD.out.on hb); replace HD12 := Lib.hid (HD12.out.on hb); replace Z := bcj Z hb; clear hb)
        | (refine store_d (.tmp 18) (.tmp 75) rfl rfl w13.heap.size 0 rfl zero rfl HZ.out (dg_zero w13 _).there ?_; refine Hash.gen_world (Pq := fun W => Below w13.heap.size w13 W ∧ Dg W w13.heap.size zero) (G := fun W => wpList _ _ _ _ _ W) (d_new w13 HZ.out _) ?_; intro W14 h14; replace HLQ3 := Lib.hid (HLQ3.out.on h14.1); replace HLQ4 := Lib.hid (HLQ4.out.on h14.1); replace HLM := Lib.hid (HLM.out.on h14.1); replace HRD := Lib.hid (HRD.out.on h14.1); replace HD12 := Lib.hid (HD12.out.on h14.1); replace Z := bcj Z h14.1; clear h14)
        | (refine load_d 77 rfl rfl _ rfl g 0 rfl R HRL.out HRD.out.range ?_)
        | (go_at_call 18; (with_reducible refine (HVE.out _ A3 c3 HLQ3.out Z).mono ?_); rintro e2 w15 ⟨rfl, hb⟩; replace HLQ4 := Lib.hid (HLQ4.out.on hb); replace HLM := Lib.hid (HLM.out.on hb); replace HRD := Lib.hid (HRD.out.on hb); replace HD12 := Lib.hid (HD12.out.on hb); replace Z := bcj Z hb; clear hb))
      have hcut : LiesD w15 w15.heap.size (some ⟨w.heap.size, 0, none⟩) 1 3 [dgt 1] := HLM.out.take (k := 1) (by decide)
      have HRC1 : Hid (∀ W, Below w15.heap.size w15 W → Calls Tryd.prog 16 #[.slice (some ⟨w.heap.size, 0, none⟩) 1 3] W (Hash.GivesA (T.map bv) W)) := Lib.hid (fun W h => HRC.out W ((hcut.below h).more h.size) (bcj Z h))
      have HVP1 : Hid (∀ W, Below w15.heap.size w15 W → Calls Tryd.prog 20 #[.agg (T.map bv).toArray, .agg (R.map bv).toArray, .int .i64 1, .int .i64 3, .slice A4 2 c4] W (GivesT true W)) := Lib.hid (fun W h => HVP.out W A4 c4 ((HLQ4.out.below h).more h.size) (bcj Z h))
      have HRD1 : Hid (∀ W, Below w15.heap.size w15 W → W.rangeAt g 0 (R.map bv)) := Lib.hid (fun W h => (HRD.out.on h).range)
      refine QTail.whole (fun W => Below w15.heap.size w15 W) (by kernel_rfl) (by kernel_rfl) (Below.refl _ _).drew ?_
      (refine wpQuiet_step (fun K hK => ?_); go_simp; (first | refine hK _ ?_ | refine ⟨_, fun _ _ => rfl, hK _ ?_⟩); clear hK K)
      (refine wpQuiet_step (fun K hK => ?_); go_simp; refine ⟨(.slice (some ⟨w.heap.size, 0, none⟩) 1 3), fun W hW => ?_, hK _ ?_⟩; (first | exact ⟨rfl, rfl⟩ | rfl | (rw [if_pos (by omega)]; exact ⟨rfl, rfl⟩) | (rw [if_pos (by omega), if_neg (by omega)]; exact ⟨rfl, rfl⟩) | (rw [if_neg (by omega)]; exact ⟨rfl, rfl⟩)); clear hK K)
      (refine wpQuiet_step (fun K hK => ?_); go_simp; refine ⟨_, fun W hW => (HRC1.out W hW).mono fun e w' ⟨he, hb⟩ => ⟨he, hW.trans (hb.mono hW.size)⟩, hK _ ?_⟩; clear hK K)
      refine QTail.loadC (by rfl) 29 (.tmp 2) rfl g 0 rfl (R.map bv) _ HRD1.out und_d rfl (info_d HRL.out) ?_
      (refine wpQuiet_step (fun K hK => ?_); go_simp; (first | refine hK _ ?_ | refine ⟨_, fun _ _ => rfl, hK _ ?_⟩); clear hK K)
      (refine wpQuiet_step (fun K hK => ?_); go_simp; refine ⟨_, fun W hW => (HVP1.out W hW).mono fun e w' ⟨he, hb⟩ => ⟨he, hW.trans (hb.mono hW.size)⟩, hK _ ?_⟩; clear hK K)
      (refine wpQuiet_step (fun K hK => ?_); go_simp; (first | refine hK _ ?_ | refine ⟨_, fun _ _ => rfl, hK _ ?_⟩); clear hK K)
      refine wpQuiet_nil ?_
      intro w16 hb16
      have e1 := E1.out
      have e2 := E2.out
      have e3 := E3.out
      have e4 := E4.out
      go_wp2_with (first
        | (refine QTail.loadG (by rfl) 29 (.tmp 16) rfl w11.heap.size 0 rfl (R.map bv) _ (HD12.out.on hb16).range und_d rfl (info_d HRL.out) ?_)
        | (refine QTail.loadG (by rfl) 29 (.tmp 2) rfl g 0 rfl (R.map bv) _ (HRD1.out _ hb16) und_d rfl (info_d HRL.out) ?_))
      go_ret
      exact ⟨rfl, bcj Z hb16⟩
end Mk
end Go.Proofs.YthpkeaafgabjiaaDoor

