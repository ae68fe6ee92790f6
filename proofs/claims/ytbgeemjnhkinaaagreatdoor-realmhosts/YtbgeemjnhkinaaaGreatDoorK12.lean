/-
  Realm: the page's examples.
-/
import Derived.Test.YtbgeemjnhkinaaaGreatDoorK11
namespace Go.Proofs.YtbgeemjnhkinaaaGreatDoor
open Go.RowKit
/-- The lists of the examples lie where they were laid. -/
def MN (w : World) (g : Nat) (W : World) : Prop := Blk 27 W g (gen 2 [97] none none 0 0 0 0) ∧ Blk 27 W (g + 1) (gen 2 [98] none none 0 0 0 0) ∧ Below g w W
theorem MN.below {w : World} {g : Nat} {W W' : World} (h : MN w g W) (hb : Below W.heap.size W W') : MN w g W' :=
  ⟨below_blk hb h.1.lt h.1, below_blk hb h.2.1.lt h.2.1, h.2.2.trans (hb.mono (by have := h.1.lt; omega))⟩
theorem u8d {X : List Int} (h : (X.all fun x => decide (0 ≤ x ∧ x < 256)) = true) : U8s X := fun x hx => by have := List.all_eq_true.1 h x hx; simpa [U8] using this
theorem liveH1 {W : World} : Calls Tryz.prog 5 #[.string ⟨#[97, 46, 66, 46, 101, 120, 97, 109, 112, 108, 101]⟩, .string ⟨#[98, 46, 101, 120, 97, 109, 112, 108, 101]⟩] W fun e w' => e = .returned (.bool true) ∧ Below W.heap.size W w' := by
  have h := Host_any (w := W) [97, 46, 66, 46, 101, 120, 97, 109, 112, 108, 101] [98, 46, 101, 120, 97, 109, 112, 108, 101] (u8d rfl) (u8d rfl) (by decide) (by decide)
  rw [show hostB [97, 46, 66, 46, 101, 120, 97, 109, 112, 108, 101] [98, 46, 101, 120, 97, 109, 112, 108, 101] = true by decide +kernel] at h
  exact h
theorem liveH2 {W : World} : Calls Tryz.prog 5 #[.string ⟨#[97, 98, 46, 101, 120, 97, 109, 112, 108, 101]⟩, .string ⟨#[98, 46, 101, 120, 97, 109, 112, 108, 101]⟩] W fun e w' => e = .returned (.bool false) ∧ Below W.heap.size W w' := by
  have h := Host_any (w := W) [97, 98, 46, 101, 120, 97, 109, 112, 108, 101] [98, 46, 101, 120, 97, 109, 112, 108, 101] (u8d rfl) (u8d rfl) (by decide) (by decide)
  rw [show hostB [97, 98, 46, 101, 120, 97, 109, 112, 108, 101] [98, 46, 101, 120, 97, 109, 112, 108, 101] = false by decide +kernel] at h
  exact h
theorem liveH3 {W : World} : Calls Tryz.prog 5 #[.string ⟨#[98, 46, 101, 120, 97, 109, 112, 108, 101]⟩, .string ⟨#[46, 98, 46, 101, 120, 97, 109, 112, 108, 101]⟩] W fun e w' => e = .returned (.bool false) ∧ Below W.heap.size W w' := by
  have h := Host_any (w := W) [98, 46, 101, 120, 97, 109, 112, 108, 101] [46, 98, 46, 101, 120, 97, 109, 112, 108, 101] (u8d rfl) (u8d rfl) (by decide) (by decide)
  rw [show hostB [98, 46, 101, 120, 97, 109, 112, 108, 101] [46, 98, 46, 101, 120, 97, 109, 112, 108, 101] = false by decide +kernel] at h
  exact h
theorem liveM1 {W : World} : Calls Tryz.prog 7 #[.string ⟨#[120, 64, 98, 46, 101, 120, 97, 109, 112, 108, 101]⟩, .string ⟨#[98, 46, 101, 120, 97, 109, 112, 108, 101]⟩] W fun e w' => e = .returned (.bool true) ∧ Below W.heap.size W w' := by
  have h := Mail_any (w := W) [120, 64, 98, 46, 101, 120, 97, 109, 112, 108, 101] [98, 46, 101, 120, 97, 109, 112, 108, 101] (u8d rfl) (u8d rfl) (by decide) (by decide)
  rw [show mailB [120, 64, 98, 46, 101, 120, 97, 109, 112, 108, 101] [98, 46, 101, 120, 97, 109, 112, 108, 101] = true by decide +kernel] at h
  exact h
theorem liveM2 {W : World} : Calls Tryz.prog 7 #[.string ⟨#[120, 64, 97, 46, 98, 46, 101, 120, 97, 109, 112, 108, 101]⟩, .string ⟨#[98, 46, 101, 120, 97, 109, 112, 108, 101]⟩] W fun e w' => e = .returned (.bool false) ∧ Below W.heap.size W w' := by
  have h := Mail_any (w := W) [120, 64, 97, 46, 98, 46, 101, 120, 97, 109, 112, 108, 101] [98, 46, 101, 120, 97, 109, 112, 108, 101] (u8d rfl) (u8d rfl) (by decide) (by decide)
  rw [show mailB [120, 64, 97, 46, 98, 46, 101, 120, 97, 109, 112, 108, 101] [98, 46, 101, 120, 97, 109, 112, 108, 101] = false by decide +kernel] at h
  exact h
theorem liveA1 {W : World} (p q : Nat) (hp : Blk 27 W p (gen 2 [97] none none 0 0 0 0)) (hq : Blk 27 W q (gen 2 [98] none none 0 0 0 0)) : Calls Tryz.prog 10 #[.slice (some ⟨p, 0, none⟩) 1 1, .slice (some ⟨q, 0, none⟩) 1 1, .slice none 0 0] W fun e w' => e = .returned (.bool false) ∧ Below W.heap.size W w' := by
  have h := Allowed2_any (w := W) [97] [98] (u8d rfl) (u8d rfl) (by decide) (by decide) 2 none none none none 0 0 0 0 0 0 0 0 p q hp hq
  rw [show (!decide ((2 : Int) = 2) || hostB [97] [98]) = false by decide +kernel] at h
  exact h
theorem liveA2 {W : World} (p q : Nat) (hp : Blk 27 W p (gen 2 [97] none none 0 0 0 0)) (hq : Blk 27 W q (gen 1 [98] none none 0 0 0 0)) : Calls Tryz.prog 10 #[.slice (some ⟨p, 0, none⟩) 1 1, .slice (some ⟨q, 0, none⟩) 1 1, .slice none 0 0] W fun e w' => e = .returned (.bool true) ∧ Below W.heap.size W w' := by
  have h := Allowed2_any (w := W) [97] [98] (u8d rfl) (u8d rfl) (by decide) (by decide) 1 none none none none 0 0 0 0 0 0 0 0 p q hp hq
  rw [show (!decide ((1 : Int) = 2) || hostB [97] [98]) = true by decide +kernel] at h
  exact h
theorem liveN {W : World} : Calls Tryz.prog 9 #[.slice (some ⟨W.heap.size, 0, none⟩) 4 4, .slice (some ⟨W.heap.size + 1, 0, none⟩) 8 8] ((W.alloc (.cells #[.int .u8 10, .int .u8 1, .int .u8 2, .int .u8 3] 5)).alloc (.cells #[.int .u8 10, .int .u8 1, .int .u8 0, .int .u8 0, .int .u8 255, .int .u8 255, .int .u8 0, .int .u8 0] 5)) fun e w' => e = .returned (.bool true) ∧ Below ((W.alloc (.cells #[.int .u8 10, .int .u8 1, .int .u8 2, .int .u8 3] 5)).alloc (.cells #[.int .u8 10, .int .u8 1, .int .u8 0, .int .u8 0, .int .u8 255, .int .u8 255, .int .u8 0, .int .u8 0] 5)).heap.size ((W.alloc (.cells #[.int .u8 10, .int .u8 1, .int .u8 2, .int .u8 3] 5)).alloc (.cells #[.int .u8 10, .int .u8 1, .int .u8 0, .int .u8 0, .int .u8 255, .int .u8 255, .int .u8 0, .int .u8 0] 5)) w' := by
  have h1 : Sl .u8 ((W.alloc (.cells #[.int .u8 10, .int .u8 1, .int .u8 2, .int .u8 3] 5)).alloc (.cells #[.int .u8 10, .int .u8 1, .int .u8 0, .int .u8 0, .int .u8 255, .int .u8 255, .int .u8 0, .int .u8 0] 5)) (.slice (some ⟨W.heap.size, 0, none⟩) 4 4) [10, 1, 2, 3] := sl_alloc (new_sl (k := .u8) (e := 5) (w := W) [10, 1, 2, 3] (0, 0)) _
  have h2 : Sl .u8 ((W.alloc (.cells #[.int .u8 10, .int .u8 1, .int .u8 2, .int .u8 3] 5)).alloc (.cells #[.int .u8 10, .int .u8 1, .int .u8 0, .int .u8 0, .int .u8 255, .int .u8 255, .int .u8 0, .int .u8 0] 5)) (.slice (some ⟨W.heap.size + 1, 0, none⟩) 8 8) [10, 1, 0, 0, 255, 255, 0, 0] := by
    have := new_sl (k := .u8) (e := 5) (w := W.alloc (.cells #[.int .u8 10, .int .u8 1, .int .u8 2, .int .u8 3] 5)) [10, 1, 0, 0, 255, 255, 0, 0] (0, 0)
    rw [World.size_alloc] at this
    exact this
  have h := Net_any _ _ _ _ h1 h2 (by decide)
  rw [show netB [10, 1, 2, 3] [10, 1, 0, 0, 255, 255, 0, 0] = true by decide +kernel] at h
  exact h
set_option maxRecDepth 20000 in
set_option maxHeartbeats 4000000 in
theorem live14_any {w : World} : Calls Tryz.prog 4 #[] w fun e w' => e = .returned (.bool true) ∧ Below w.heap.size w w' := by
  obtain ⟨g, hg⟩ : ∃ g, w.heap.size = g := ⟨_, rfl⟩
  rw [hg]
  go_enter Tryz.func4, Tryz.ntmps4
  go_upto_region 2 with (fail)
  refine wp_gen (fun W => MN w g W) ?_ ?_
  · have k0 := (Blk.new 27 w (gen 2 [97] none none 0 0 0 0)).alloc (.cells (gen 2 [98] none none 0 0 0 0).toArray 27)
    have k1 := Blk.new 27 (w.alloc (.cells (gen 2 [97] none none 0 0 0 0).toArray 27)) (gen 2 [98] none none 0 0 0 0)
    have hb := (al1 (w := w) (.cells (gen 2 [97] none none 0 0 0 0).toArray 27)).alloc (al1 _).size (.cells (gen 2 [98] none none 0 0 0 0).toArray 27)
    simp only [World.size_alloc, hg] at k0 k1 hb
    exact ⟨k0, k1, hb⟩
  intro w0 HN0
  go_wp2_with (first
    | (go_at_call 10; have hq := HN7; clear hq; refine (liveA2 _ _ (HN7.1.alloc _) (Blk.new 27 w7 (gen 1 [98] none none 0 0 0 0))).mono ?_; rintro e w8 ⟨rfl, hb8⟩; have HN8 := (HN7.below (al1 _)).below hb8; clear hb8)
    | (go_at_call 10; have hq := HN6; clear hq; refine (liveA1 _ _ HN6.1 HN6.2.1).mono ?_; rintro e w7 ⟨rfl, hb7⟩; have HN7 := HN6.below hb7; clear hb7)
    | (go_at_call 9; have hq := HN5; clear hq; refine liveN.mono ?_; rintro e w6 ⟨rfl, hb6⟩; have HN6 := (HN5.below ((al1 _).alloc (al1 _).size _)).below hb6; clear hb6)
    | (go_at_call 7; have hq := HN4; clear hq; refine liveM2.mono ?_; rintro e w5 ⟨rfl, hb5⟩; have HN5 := HN4.below hb5; clear hb5)
    | (go_at_call 7; have hq := HN3; clear hq; refine liveM1.mono ?_; rintro e w4 ⟨rfl, hb4⟩; have HN4 := HN3.below hb4; clear hb4)
    | (go_at_call 5; have hq := HN2; clear hq; refine liveH3.mono ?_; rintro e w3 ⟨rfl, hb3⟩; have HN3 := HN2.below hb3; clear hb3)
    | (go_at_call 5; have hq := HN1; clear hq; refine liveH2.mono ?_; rintro e w2 ⟨rfl, hb2⟩; have HN2 := HN1.below hb2; clear hb2)
    | (go_at_call 5; have hq := HN0; clear hq; refine liveH1.mono ?_; rintro e w1 ⟨rfl, hb1⟩; have HN1 := HN0.below hb1; clear hb1))
  go_ret
  exact ⟨rfl, HN8.2.2⟩
end Go.Proofs.YtbgeemjnhkinaaaGreatDoor
/-
  The law RealmHosts.
-/
namespace Go.Proofs.YtbgeemjnhkinaaaGreatDoor
open Go.RowKit
theorem RMail_any {w : World} (X Y : List Int) (uX : U8s X) (uY : U8s Y) (lX : X.length ≤ 1000000) (lY : Y.length ≤ 1000000) :
    Calls Tryz.prog 8 #[.string (strOfNums X), .string (strOfNums Y)] w fun e w' => e = .returned (.bool (mailB X Y)) ∧ Below w.heap.size w w' := by
  have hbd := lastB_bd X
  by_cases h : lastB X 64 < 1 ∨ lastB X 64 = X.length - 1
  · exact RMail_no X Y uX lX h
  · obtain ⟨i, hi⟩ : ∃ i : Nat, lastB X 64 = (i : Int) := ⟨(lastB X 64).toNat, by omega⟩
    exact RMail_yes X Y uX uY lX lY i hi (by omega) (by omega)
set_option maxRecDepth 20000 in
set_option maxHeartbeats 4000000 in
theorem RealmHosts_any {w : World} (X Y : List Int) (uX : U8s X) (uY : U8s Y) (lX : X.length ≤ 9223372036854775807) (lY : Y.length ≤ 9223372036854775807) :
    Calls Tryz.prog 3 #[.string (strOfNums X), .string (strOfNums Y)] w fun e w' => e = .returned (.bool true) ∧ Below w.heap.size w w' := by
  obtain ⟨n, hn⟩ : ∃ n, X.length = n := ⟨_, rfl⟩
  obtain ⟨m, hm⟩ : ∃ m, Y.length = m := ⟨_, rfl⟩
  have hsX : (strOfNums X).size = n := by rw [st_size, hn]
  have hsY : (strOfNums Y).size = m := by rw [st_size, hm]
  have HX : Hid (U8s X ∧ U8s Y ∧ X.length = n ∧ Y.length = m) := ⟨uX, uY, hn, hm⟩
  rw [hn] at lX
  rw [hm] at lY
  clear uX uY hn hm
  by_cases h1 : 2000 < n
  · have h1b : (2000 : Int) < (n : Int) := by omega
    go_enter Tryz.func3, Tryz.ntmps3
    go_wp2_with (go_at_call 4; refine live14_any.mono ?_; rintro e w1 ⟨rfl, hb1⟩)
    go_ret
    exact ⟨rfl, hb1⟩
  have h1b : ¬ (2000 : Int) < (n : Int) := by omega
  by_cases h2 : 2000 < m
  · have h2b : (2000 : Int) < (m : Int) := by omega
    go_enter Tryz.func3, Tryz.ntmps3
    go_wp2_with (go_at_call 4; refine live14_any.mono ?_; rintro e w1 ⟨rfl, hb1⟩)
    go_ret
    exact ⟨rfl, hb1⟩
  have h2b : ¬ (2000 : Int) < (m : Int) := by omega
  have C1 : Hid (∀ W : World, Calls Tryz.prog 5 #[.string (strOfNums X), .string (strOfNums Y)] W fun e w' => e = .returned (.bool (hostB X Y)) ∧ Below W.heap.size W w') := fun W => Host_any X Y HX.out.1 HX.out.2.1 (by have := HX.out.2.2.1; omega) (by have := HX.out.2.2.2; omega)
  have C2 : Hid (∀ W : World, Calls Tryz.prog 6 #[.string (strOfNums X), .string (strOfNums Y)] W fun e w' => e = .returned (.bool (hostB X Y)) ∧ Below W.heap.size W w') := fun W => RHost_any X Y HX.out.1 HX.out.2.1 (by have := HX.out.2.2.1; omega) (by have := HX.out.2.2.2; omega)
  have C3 : Hid (∀ W : World, Calls Tryz.prog 7 #[.string (strOfNums X), .string (strOfNums Y)] W fun e w' => e = .returned (.bool (mailB X Y)) ∧ Below W.heap.size W w') := fun W => Mail_any X Y HX.out.1 HX.out.2.1 (by have := HX.out.2.2.1; omega) (by have := HX.out.2.2.2; omega)
  have C4 : Hid (∀ W : World, Calls Tryz.prog 8 #[.string (strOfNums X), .string (strOfNums Y)] W fun e w' => e = .returned (.bool (mailB X Y)) ∧ Below W.heap.size W w') := fun W => RMail_any X Y HX.out.1 HX.out.2.1 (by have := HX.out.2.2.1; omega) (by have := HX.out.2.2.2; omega)
  clear HX
  generalize hostB X Y = p at C1 C2
  generalize mailB X Y = q at C3 C4
  have hp : (p == p) = true := by simp
  have hq : (q == q) = true := by simp
  go_enter Tryz.func3, Tryz.ntmps3
  go_wp2_with (first
    | (go_at_call 5; refine (C1.out _).mono ?_; rintro e w1 ⟨rfl, hb1⟩)
    | (go_at_call 6; refine (C2.out _).mono ?_; rintro e w2 ⟨rfl, hb2⟩)
    | (go_at_call 7; refine (C3.out _).mono ?_; rintro e w3 ⟨rfl, hb3⟩)
    | (go_at_call 8; refine (C4.out _).mono ?_; rintro e w4 ⟨rfl, hb4⟩)
    | (go_at_call 4; refine live14_any.mono ?_; rintro e w5 ⟨rfl, hb5⟩))
  go_ret
  have b2 := hb1.trans (hb2.mono hb1.size)
  have b3 := b2.trans (hb3.mono b2.size)
  have b4 := b3.trans (hb4.mono b3.size)
  exact ⟨rfl, b4.trans (hb5.mono b4.size)⟩
theorem of_str (S : ByteArray) : ∃ Y, U8s Y ∧ Y.length = S.size ∧ strOfNums Y = S := by
  refine ⟨S.data.toList.map (fun b => (b.toNat : Int)), ?_, ?_, ?_⟩
  · intro x hx
    obtain ⟨b, _, rfl⟩ := List.mem_map.1 hx
    have := b.toNat_lt
    unfold U8
    omega
  · simp
  · unfold strOfNums
    congr 1
    apply Array.ext'
    simp only [List.map_map]
    refine (List.map_congr_left (g := id) (fun b _ => ?_)).trans (List.map_id _)
    simp
theorem RealmHosts_law {w : World} (s t : ByteArray) (hs : s.size ≤ 9223372036854775807) (ht : t.size ≤ 9223372036854775807) :
    Calls Tryz.prog 3 #[.string s, .string t] w fun e w' => e = .returned (.bool true) ∧ Below w.heap.size w w' := by
  obtain ⟨X, uX, lX, rfl⟩ := of_str s
  obtain ⟨Y, uY, lY, rfl⟩ := of_str t
  exact RealmHosts_any X Y uX uY (by omega) (by omega)
end Go.Proofs.YtbgeemjnhkinaaaGreatDoor
