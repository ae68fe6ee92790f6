/-
  Clock: what a string ends in; where a sign stands in it.
-/
import Derived.Test.YtonfllajceppgaaDoorC5
import Derived.Lib.Bytealg
namespace Go.Proofs.YtonfllajceppgaaDoor
open Go.RowKit
theorem st_beq (X Y : List Int) (hX : U8s X) (hY : U8s Y) : ((strOfNums X).toList == (strOfNums Y).toList) = decide (X = Y) := by
  rw [Bool.eq_iff_iff, beq_iff_eq, decide_eq_true_eq]
  constructor
  · intro h
    refine st_inj hX hY ?_
    apply ByteArray.ext
    rw [Lib.toList_data, Lib.toList_data] at h
    exact Array.toList_inj.1 h
  · intro h; rw [h]
theorem hasSuffix_nil {w : World} (b : Int) : Calls Tryd.prog 63 #[.string (strOfNums []), .string (strOfNums [b])] w fun e w' => e = .returned (.bool false) ∧ w = w' := by
  obtain ⟨S, hS⟩ : ∃ S, strOfNums [] = S := ⟨_, rfl⟩
  obtain ⟨T, hT⟩ : ∃ T, strOfNums [b] = T := ⟨_, rfl⟩
  have zS : S.size = 0 := by rw [← hS]; exact st_size _
  have zT : T.size = 1 := by rw [← hT]; exact st_size _
  rw [hS, hT]
  go_enter Tryd.func63, Tryd.ntmps63
  go_wp2
  go_ret
  exact ⟨rfl, rfl⟩
theorem hasSuffix_snoc {w : World} (Y : List Int) (z b : Int) (hz : U8 z) (hb : U8 b) (hl : Y.length ≤ 1000000000000) : Calls Tryd.prog 63 #[.string (strOfNums (Y ++ [z])), .string (strOfNums [b])] w fun e w' => e = .returned (.bool (decide (z = b))) ∧ w = w' := by
  obtain ⟨S, hS⟩ : ∃ S, strOfNums (Y ++ [z]) = S := ⟨_, rfl⟩
  obtain ⟨T, hT⟩ : ∃ T, strOfNums [b] = T := ⟨_, rfl⟩
  obtain ⟨n, hn⟩ : ∃ n, Y.length = n := ⟨_, rfl⟩
  have zS : S.size = n + 1 := by rw [← hS, st_size, ← hn]; simp
  have zT : T.size = 1 := by rw [← hT]; exact st_size _
  rw [hS, hT]
  have hnI : (n : Int) ≤ 1000000000000 := by omega
  go_enter Tryd.func63, Tryd.ntmps63
  go_wp2
  go_ret
  refine ⟨?_, rfl⟩
  show Ending.returned (.bool ((S.extract n (n + 1)).toList == T.toList)) = _
  rw [← hS, ← hT, st_extract, st_beq _ _ _ (fun x hx => by rw [List.mem_singleton.1 hx]; exact hb)]
  · rw [← hn]; simp
  · rw [← hn]; intro x hx; simp at hx; rw [hx]; exact hz
set_option maxHeartbeats 1000000 in
theorem liteSuffix_yes {w : World} (Y : List Int) (b : Int) (hb : U8 b) (hl : Y.length ≤ 1000000000000) : Calls Tryd.prog 51 #[.string (strOfNums (Y ++ [b])), .string (strOfNums [b])] w fun e w' => e = .returned (.tuple #[.string (strOfNums Y), .bool true]) ∧ w = w' := by
  obtain ⟨S, hS⟩ : ∃ S, strOfNums (Y ++ [b]) = S := ⟨_, rfl⟩
  obtain ⟨T, hT⟩ : ∃ T, strOfNums [b] = T := ⟨_, rfl⟩
  have HC : Hid (∀ w, Calls Tryd.prog 63 #[.string S, .string T] w fun e w' => e = .returned (.bool true) ∧ w = w') := fun w => by
    rw [← hS, ← hT]
    have := hasSuffix_snoc (w := w) Y b b hb hb hl
    simpa using this
  obtain ⟨n, hn⟩ : ∃ n, Y.length = n := ⟨_, rfl⟩
  have zS : S.size = n + 1 := by rw [← hS, st_size, ← hn]; simp
  have zT : T.size = 1 := by rw [← hT]; exact st_size _
  have hE : S.extract 0 n = strOfNums Y := by
    rw [← hS, st_extract, ← hn]; simp
  have HE : Hid (S.extract 0 n = strOfNums Y) := hE
  rw [hS, hT]
  clear hE hS hT
  have hnI : (n : Int) ≤ 1000000000000 := by omega
  go_enter Tryd.func51, Tryd.ntmps51
  go_wp2_with fail
  refine (HC.out _).mono ?_
  rintro e w' ⟨rfl, rfl⟩
  go_wp2
  go_ret2
  refine ⟨?_, rfl⟩
  rw [← HE.out]; rfl
set_option maxHeartbeats 1000000 in
theorem liteSuffix_no {w : World} (X : List Int) (b : Int) (hU : U8s X) (hb : U8 b) (hl : X.length ≤ 1000000000000) (hX : ∀ Y, X ≠ Y ++ [b]) : Calls Tryd.prog 51 #[.string (strOfNums X), .string (strOfNums [b])] w fun e w' => e = .returned (.tuple #[.string (strOfNums X), .bool false]) ∧ w = w' := by
  have hC : ∀ w, Calls Tryd.prog 63 #[.string (strOfNums X), .string (strOfNums [b])] w fun e w' => e = .returned (.bool false) ∧ w = w' := fun w => by
    rcases List.eq_nil_or_concat X with h | ⟨Y, z, h⟩
    · rw [h]; exact hasSuffix_nil b
    · rw [List.concat_eq_append] at h
      have hz : z ≠ b := fun e => hX Y (by rw [h, e])
      rw [h] at hl hU ⊢
      have := hasSuffix_snoc (w := w) Y z b (hU z (by simp)) hb (by simp at hl; omega)
      simpa [hz] using this
  obtain ⟨S, hS⟩ : ∃ S, strOfNums X = S := ⟨_, rfl⟩
  obtain ⟨T, hT⟩ : ∃ T, strOfNums [b] = T := ⟨_, rfl⟩
  rw [hS, hT] at hC ⊢
  have HC : Hid (∀ w, Calls Tryd.prog 63 #[.string S, .string T] w fun e w' => e = .returned (.bool false) ∧ w = w') := hC
  clear hC hS hT
  go_enter Tryd.func51, Tryd.ntmps51
  go_wp2_with fail
  refine (HC.out _).mono ?_
  rintro e w' ⟨rfl, rfl⟩
  go_wp2
  go_ret2
  exact ⟨rfl, rfl⟩
theorem wrap2 {w : World} {S T : ByteArray} {v1 v2 : Value} (h : ∀ w, Calls Tryd.prog 51 #[.string S, .string T] w fun e w' => e = .returned (.tuple #[v1, v2]) ∧ w = w') :
    Calls Tryd.prog 31 #[.string S, .string T] w fun e w' => e = .returned (.tuple #[v1, v2]) ∧ w = w' := by
  have HC : Hid _ := h
  clear h
  go_enter Tryd.func31, Tryd.ntmps31
  go_wp2_with fail
  refine (HC.out _).mono ?_
  rintro e w' ⟨rfl, rfl⟩
  go_wp2
  go_ret2
  exact ⟨rfl, rfl⟩
theorem cutSuffix_yes {w : World} (Y : List Int) (b : Int) (hb : U8 b) (hl : Y.length ≤ 1000000000000) : Calls Tryd.prog 31 #[.string (strOfNums (Y ++ [b])), .string (strOfNums [b])] w fun e w' => e = .returned (.tuple #[.string (strOfNums Y), .bool true]) ∧ w = w' :=
  wrap2 fun _ => liteSuffix_yes Y b hb hl
theorem cutSuffix_no {w : World} (X : List Int) (b : Int) (hU : U8s X) (hb : U8 b) (hl : X.length ≤ 1000000000000) (hX : ∀ Y, X ≠ Y ++ [b]) : Calls Tryd.prog 31 #[.string (strOfNums X), .string (strOfNums [b])] w fun e w' => e = .returned (.tuple #[.string (strOfNums X), .bool false]) ∧ w = w' :=
  wrap2 fun _ => liteSuffix_no X b hU hb hl hX
/-! ## where a sign stands -/
/-- the place of the first of it, or -1 -/
def idx (X : List Int) (b : Int) : Int := match X with | [] => -1 | x :: l => if x = b then 0 else if idx l b = -1 then -1 else idx l b + 1
theorem idx_lib (X : List Int) (b : Int) (hU : U8s X) (hb : U8 b) : Lib.indexByte (strOfNums X).data.toList b.toNat.toUInt8 = idx X b := by
  rw [strOfNums_data]
  induction X with
  | nil => rfl
  | cons x l ih =>
    have i := ih (fun y hy => hU y (List.mem_cons_of_mem _ hy))
    have ux := hU x (List.mem_cons_self ..)
    rw [List.map_cons]
    unfold Lib.indexByte idx
    rw [i]
    have e : (UInt8.ofNat x.toNat == b.toNat.toUInt8) = decide (x = b) := by
      rw [Bool.eq_iff_iff, beq_iff_eq, decide_eq_true_eq]
      constructor
      · intro h
        have this : ((UInt8.ofNat x.toNat).toNat : Int) = ((b.toNat.toUInt8).toNat : Int) := by rw [h]
        rw [u8_toNat ux, show b.toNat.toUInt8 = UInt8.ofNat b.toNat from rfl, u8_toNat hb] at this
        exact this
      · intro h; rw [h]
    rw [e]
    by_cases h : x = b <;> simp [h]
set_option maxRecDepth 100000 in
theorem indexByte_any {w : World} (X : List Int) (b : Int) (hU : U8s X) (hb : U8 b) : Calls Tryd.prog 74 #[.string (strOfNums X), .int .u8 b] w fun e w' => e = .returned (.int .i64 (idx X b)) ∧ w = w' := by
  obtain ⟨S, hS⟩ : ∃ S, strOfNums X = S := ⟨_, rfl⟩
  have HE : Hid (Lib.indexByte S.data.toList b.toNat.toUInt8 = idx X b) := by rw [← hS]; exact idx_lib X b hU hb
  rw [hS]
  clear hS
  go_enter Tryd.func74, Tryd.ntmps74
  go_wp2
  rw [run_callFunc_extern Tryd.func86 (by kernel_rfl) (by kernel_rfl) (by kernel_rfl) (e := Extern.BytealgIndexByte.indexByte) (by kernel_rfl), Lib.run_indexByteString]
  simp only [Result.andThen]
  rw [Oper.upon_value]
  go_wp2
  go_ret
  exact ⟨by rw [← HE.out]; rfl, rfl⟩
end Go.Proofs.YtonfllajceppgaaDoor
