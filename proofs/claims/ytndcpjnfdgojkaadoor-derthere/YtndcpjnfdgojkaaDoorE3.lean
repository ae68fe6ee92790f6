/-
  Der: a short length; bytes copied; a short element.
-/
import Derived.Test.YtndcpjnfdgojkaaDoorE2
import Derived.Test.YtndcpjnfdgojkaaDoorApM
namespace Go.Proofs.YtndcpjnfdgojkaaDoor
open Go.RowKit
set_option maxHeartbeats 1000000 in
theorem length_short {w : World} (g b off n c p : Nat) (x : Int) (hR : Rdr w g b off n c p) (hp : p < n) (hn : n ≤ 16777216) (hx : w.cell? ⟨b, off + p, none⟩ = some (.int .u8 x)) (h0 : 0 ≤ x) (h1 : x < 128) (hf : x + p + 1 ≤ n) :
    Calls Tryd.prog 59 #[.pointer (some ⟨g, 0, none⟩)] w fun e w' => e = .returned (.tuple #[.int .i64 x, .int .i64 0]) ∧ Upd w w' g ∧ Rdr w' g b off n c (p + 1) := by
  have HR : Hid (Rdr w g b off n c p ∧ w.cell? ⟨b, off + p, none⟩ = some (.int .u8 x)) := ⟨hR, hx⟩
  have c1 : w.cell? ⟨g, 1, none⟩ = some (.int .i64 p) := hR.cell 1
  clear hR hx
  have n1 : ¬ x = 128 := by omega
  have n2 : ¬ x = 255 := by omega
  have b1 : (x != 128) = true := by simpa using n1
  have b2 : (x != 255) = true := by simpa using n2
  clear n1 n2
  go_enter Tryd.func59, Tryd.ntmps59
  go_wp2_with fail
  refine (next_any g b off n c p x HR.out.1 hp hn HR.out.2).mono ?_
  rintro e w1 ⟨rfl, hu, hr⟩
  have H1 : Hid (Upd w w1 g ∧ Rdr w1 g b off n c (p + 1)) := ⟨hu, hr⟩
  have d0 : w1.cell? ⟨g, 0, none⟩ = some (.slice (some ⟨b, off, none⟩) n c) := hr.cell 0
  have d1 : w1.cell? ⟨g, 1, none⟩ = some (.int .i64 ((p + 1 : Nat) : Int)) := hr.cell 1
  have hle : x ≤ (n : Int) - ((p + 1 : Nat) : Int) := by omega
  clear hu hr c1
  go_upto_region 11 with (fail)
  go_quiet (fail)
  go_wp2
  go_ret2
  refine ⟨rfl, ?_, H1.out.2⟩
  exact H1.out.1.trans ⟨rfl, rfl, rfl, Nat.le_refl _, fun _ _ _ => rfl⟩
set_option maxHeartbeats 1000000 in
theorem copied_any {w : World} (v : Value) (X : List Int) (hX : Sl .u8 w v X) (hl : X.length ≤ 16777216) :
    Calls Tryd.prog 60 #[v] w fun e w' => ∃ r, e = .returned r ∧ Row .u8 5 w.heap.size w' r X ∧ Below w.heap.size w w' := by
  obtain ⟨a, c, hv⟩ : ∃ a c, v = .slice a X.length c := by obtain ⟨a, c, h, h', _⟩ := hX; exact ⟨a, c, h⟩
  subst hv
  have HX : Hid (Sl .u8 w (.slice a X.length c) X) := hX
  clear hX
  go_enter Tryd.func60, Tryd.ntmps60
  go_wp2_with (at_builtin; refine wpList_ap rfl (.const (.slice none 0 0)) (.tmp 3) 22 22 rfl .u8 5 1 Tryd.und8 Tryd.info8 (by decide) w.heap.size _ [] rfl (Row.nil _ _ _ _) _ X rfl (src_sl Tryd.und8 HX.out) (by simp; omega) (Nat.le_refl _) ?_; intro v1 w1 hr hg)
  have hb := hg.below (Row.nil _ _ w.heap.size _) (Nat.le_refl _)
  go_ret
  exact ⟨_, rfl, hr, hb⟩
end Go.Proofs.YtndcpjnfdgojkaaDoor
