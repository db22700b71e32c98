/- The reference of package seal: its keys, its nonce, its tag. Condition: the texts have at most 100000 bytes; the table of the reference's constants reads as the program lays it. -/
import Derived.Test.YtdlcoajjhcbffaaDoorZSeal
import Derived.Test.YtdlcoajjhcbffaaDoorZHRefMac
import Derived.Test.YtdlcoajjhcbffaaDoorZRefBytes
import Derived.Test.YtdlcoajjhcbffaaDoorZCRefX
namespace Go.Proofs.YtdlcoajjhcbffaaDoor
open Go.RowKit
namespace Seal
open Hash (Table tabj bcj GivesT mac refMac_any sizeS convO)
open Wire (encStr refBytes_any)

theorem appS (a b : List UInt8) : (⟨a.toArray⟩ : ByteArray) ++ (⟨b.toArray⟩ : ByteArray) = ⟨(a ++ b).toArray⟩ := by
  apply ByteArray.ext
  simp
theorem encStr_length (s : List UInt8) (hs : s.length ≤ 9223372036854775807) : (encStr s).length ≤ 9 + s.length := by
  have h := (Wire.enc_length_le (n := (s.length : Int)) (by omega)).2
  simp only [encStr, List.length_append]
  omega

set_option maxRecDepth 100000 in
set_option maxHeartbeats 1000000 in
theorem refNonce_any (m ad text : List UInt8) (w : World) (hm : m.length ≤ 400000) (ha : ad.length ≤ 100000) (hx : text.length ≤ 100000) (ht : Table 0 w) :
    Calls Tryd.prog 22 #[.string ⟨m.toArray⟩, .string ⟨ad.toArray⟩, .string ⟨text.toArray⟩] w (GivesT (nonceOf m ad text) w) := by
  have hel := encStr_length ad (by omega)
  have E1 := Lib.hid (fun W => refBytes_any ad W (by omega))
  have E2 := Lib.hid (fun W hT => refMac_any m (nonceIn ad text) W hm (by unfold nonceIn nonceL; simp only [List.length_append, List.length_cons, List.length_nil]; omega) hT)
  have hml := mac_length m (nonceIn ad text)
  replace hel : (encStr ad).length ≤ 100009 := by omega
  unfold nonceOf
  have hsl : ∀ W : World, (Instr.slice 9 (.string ⟨(mac m (nonceIn ad text)).toArray⟩) none (some (.int .i64 12)) none).run Tryd.prog W = .ok (.string ⟨((mac m (nonceIn ad text)).take 12).toArray⟩) W := fun W => Cha.take_to _ _ 12 (by omega) rfl W
  have a1 := appS nonceL (encStr ad)
  have a2 := appS (nonceL ++ encStr ad) text
  have hP : (nonceL ++ encStr ad).length ≤ 100014 := by unfold nonceL; simp only [List.length_append, List.length_cons, List.length_nil]; omega
  unfold nonceIn at E2 hsl ⊢
  generalize mac m (nonceL ++ encStr ad ++ text) = M at E2 hsl ⊢
  generalize M.take 12 = M12 at hsl ⊢
  generalize nonceL ++ encStr ad ++ text = Q at a2 E2
  generalize nonceL ++ encStr ad = P at a1 a2 hP
  generalize encStr ad = EA at E1 a1 hel
  unfold nonceL at a1
  have T := ht
  clear ht hml hm ha
  go_enter Tryd.func22, Tryd.ntmps22
  go_wp2_with (first
    | (go_at_call 41; (with_reducible refine (E1.out _).mono ?_); rintro e w1 ⟨g, cap, rfl, hown, hb⟩; have hcv := convO hown rfl; replace T := tabj T hb)
    | (go_at_call 18; (with_reducible refine (E2.out _ T).mono ?_); rintro e w2 ⟨rfl, hb2⟩))
  go_ret
  exact ⟨rfl, bcj hb hb2⟩

set_option maxRecDepth 100000 in
set_option maxHeartbeats 1000000 in
theorem refTag_any (m n ad c : List UInt8) (w : World) (hm : m.length ≤ 400000) (hn : n.length ≤ 100000) (ha : ad.length ≤ 100000) (hx : c.length ≤ 100000) (ht : Table 0 w) :
    Calls Tryd.prog 24 #[.string ⟨m.toArray⟩, .string ⟨n.toArray⟩, .string ⟨ad.toArray⟩, .string ⟨c.toArray⟩] w (GivesT (tagOf m n ad c) w) := by
  have hel := encStr_length ad (by omega)
  have E1 := Lib.hid (fun W => refBytes_any ad W (by omega))
  have E2 := Lib.hid (fun W hT => refMac_any m (tagIn n ad c) W hm (by unfold tagIn tagL; simp only [List.length_append, List.length_cons, List.length_nil]; omega) hT)
  have hml := mac_length m (tagIn n ad c)
  replace hel : (encStr ad).length ≤ 100009 := by omega
  unfold tagOf
  have hsl : ∀ W : World, (Instr.slice 9 (.string ⟨(mac m (tagIn n ad c)).toArray⟩) none (some (.int .i64 16)) none).run Tryd.prog W = .ok (.string ⟨((mac m (tagIn n ad c)).take 16).toArray⟩) W := fun W => Cha.take_to _ _ 16 (by omega) rfl W
  have a1 := appS tagL n
  have a2 := appS (tagL ++ n) (encStr ad)
  have a3 := appS (tagL ++ n ++ encStr ad) c
  have hP : (tagL ++ n).length ≤ 100014 := by unfold tagL; simp only [List.length_append, List.length_cons, List.length_nil]; omega
  have hQ : (tagL ++ n ++ encStr ad).length ≤ 200024 := by rw [List.length_append]; omega
  unfold tagIn at E2 hsl ⊢
  generalize mac m (tagL ++ n ++ encStr ad ++ c) = M at E2 hsl ⊢
  generalize M.take 16 = M12 at hsl ⊢
  generalize tagL ++ n ++ encStr ad ++ c = R at a3 E2
  generalize tagL ++ n ++ encStr ad = Q at a2 a3 hQ
  generalize tagL ++ n = P at a1 a2 hP
  generalize encStr ad = EA at E1 a2 hel
  unfold tagL at a1
  have T := ht
  clear ht hml hm ha
  go_enter Tryd.func24, Tryd.ntmps24
  go_wp2_with (first
    | (go_at_call 41; (with_reducible refine (E1.out _).mono ?_); rintro e w1 ⟨g, cap, rfl, hown, hb⟩; have hcv := convO hown rfl; replace T := tabj T hb)
    | (go_at_call 18; (with_reducible refine (E2.out _ T).mono ?_); rintro e w2 ⟨rfl, hb2⟩))
  go_ret
  exact ⟨rfl, bcj hb hb2⟩

/-- Two keys and an error number are returned; the memory that was there is as it was. -/
def GivesK (a b : List UInt8) (n : Nat) (w : World) (e : Ending) (w' : World) : Prop := e = .returned (.tuple #[.string ⟨a.toArray⟩, .string ⟨b.toArray⟩, .int .i64 (n : Int)]) ∧ Below w.heap.size w w'

set_option maxRecDepth 100000 in
set_option maxHeartbeats 1000000 in
theorem refKeys_ok (key : List UInt8) (w : World) (hk : key.length = 32) (ht : Table 0 w) :
    Calls Tryd.prog 11 #[.string ⟨key.toArray⟩] w (GivesK (ek key) (mk key) 0 w) := by
  have hsz := sizeS key
  rw [hk] at hsz
  have E1 : Hid (∀ W, Table 0 W → Calls Tryd.prog 18 #[.string ⟨key.toArray⟩, .string ⟨#[101, 110, 99]⟩] W (GivesT (ek key) W)) := Lib.hid (fun W hT => refMac_any key encL W (by omega) (by decide) hT)
  have E2 : Hid (∀ W, Table 0 W → Calls Tryd.prog 18 #[.string ⟨key.toArray⟩, .string ⟨#[109, 97, 99]⟩] W (GivesT (mk key) W)) := Lib.hid (fun W hT => refMac_any key macL W (by omega) (by decide) hT)
  generalize ek key = E at E1 ⊢
  generalize mk key = M at E2 ⊢
  have T := ht
  have Z := Below.refl w.heap.size w
  clear hk ht
  go_enter Tryd.func11, Tryd.ntmps11
  go_wp2_with (first
    | (go_at_call 18; (with_reducible refine (E1.out _ T).mono ?_); rintro e w1 ⟨rfl, hb⟩; replace T := tabj T hb; replace Z := bcj Z hb; clear hb)
    | (go_at_call 18; (with_reducible refine (E2.out _ T).mono ?_); rintro e w2 ⟨rfl, hb⟩; replace T := tabj T hb; replace Z := bcj Z hb; clear hb))
  go_ret3
  exact ⟨rfl, Z⟩
set_option maxHeartbeats 400000 in
theorem refKeys_err (key : List UInt8) (w : World) (hk : ¬ key.length = 32) :
    Calls Tryd.prog 11 #[.string ⟨key.toArray⟩] w (GivesK [] [] 1 w) := by
  have hsz := sizeS key
  have hk2 : ¬ (key.length : Int) = 32 := by omega
  go_enter Tryd.func11, Tryd.ntmps11
  go_wp2
  go_ret3
  exact ⟨rfl, Below.refl _ _⟩

end Seal
end Go.Proofs.YtdlcoajjhcbffaaDoor
