/-
  Policy: the reference's End.
-/
import Derived.Deep.CutBlock
import Derived.Test.YtkjdihikcgpabaaDoorK14
namespace Go.Proofs.YtkjdihikcgpabaaDoor
open Go.RowKit Go.Sort Go.Lib
theorem put_len (l : List Tx) (s : Tx) : (put l s).length ≤ l.length + 1 := by
  unfold put
  split
  · omega
  · rw [List.length_reverse, dwn_len, List.length_reverse]
    exact Nat.le_refl _
theorem fput_len (l : List Tx) : ∀ m, (l.foldl put m).length ≤ m.length + l.length := by
  induction l with
  | nil => intro m; simp
  | cons x l ih =>
    intro m
    have h1 := ih (put m x)
    have h2 := put_len m x
    simp only [List.foldl_cons, List.length_cons]
    omega
/-- One of those that hold, where it is asked for. -/
def ask (fr : Bool) (U : List Tx) (m : List Tx) (s : Tx) : List Tx := if fr || decide (s ∈ U) then put m s else m
theorem ask_len (fr : Bool) (U l : List Tx) : ∀ m, (l.foldl (ask fr U) m).length ≤ m.length + l.length := by
  induction l with
  | nil => intro m; simp
  | cons x l ih =>
    intro m
    have h1 := ih (ask fr U m x)
    have h2 : (ask fr U m x).length ≤ m.length + 1 := by
      unfold ask
      split
      · exact put_len m x
      · omega
    simp only [List.foldl_cons, List.length_cons]
    omega
theorem rgrant_is (S U : List Tx) (fr : Bool) (h : (decide (U = []) || decide (anyP ∈ U)) = fr) : rgrant S U = if !fr && decide (anyP ∈ S) then U.foldl put (S.foldl (ask fr U) []) else S.foldl (ask fr U) [] := by
  unfold rgrant
  simp only [h]
  rfl
theorem fold_take {α β : Type} (f : β → α → β) (l : List α) (i : Nat) (h : i < l.length) (m : β) : (l.take (i + 1)).foldl f m = f ((l.take i).foldl f m) l[i] := by
  rw [List.take_succ_eq_append_getElem h, List.foldl_append]
  rfl
set_option maxRecDepth 20000 in
set_option maxHeartbeats 4000000 in
theorem REnd_any {w : World} (u : Value) (pe pa : Int) (ci cs cp : Value) (cr ch : Int) (v : Value) (S U : List Tx) (L : List Tx) (o : Bool) (hu : TxS w u S) (hv : TxS w v U) (hS : S.length ≤ 200000) (hU : U.length ≤ 200000) (h0 : -9223372036854775808 ≤ pe) (h1 : pe ≤ 9223372036854775807) :
    Calls Tryd.prog 14 #[.agg #[u, .int .i64 pe, .int .i64 pa], .agg #[.slice none 0 0, .slice none 0 0, .slice none 0 0, ci, cs, .int .i64 0, .int .i64 0, .int .i64 0, .slice none 0 0, .slice none 0 0, .slice none 0 0, .slice none 0 0, .int .i64 0, .int .i64 0, .int .i64 0, .int .i64 0, .slice none 0 0, .bool false, .int .i64 0, .int .i64 0, .slice none 0 0, .bool false, .slice none 0 0, .slice none 0 0, .slice none 0 0, cp, .int .i64 cr, .int .i64 ch, .slice none 0 0, .slice none 0 0, .bool false], v] w fun e w' => EndOut w' e (endP ⟨S, pe, pa⟩ ⟨L, cr, ch, o⟩ U) ∧ Below w.heap.size w w' := by
  obtain ⟨x, hx⟩ : ∃ x, (if cr = 0 then 0 else less pe) = x := ⟨_, rfl⟩
  obtain ⟨G, hG⟩ : ∃ G, rgrant S U = G := ⟨_, rfl⟩
  obtain ⟨fr, hfr⟩ : ∃ fr, (decide (U = []) || decide (anyP ∈ U)) = fr := ⟨_, rfl⟩
  obtain ⟨O, hO⟩ : ∃ O, endP ⟨S, pe, pa⟩ ⟨L, cr, ch, o⟩ U = O := ⟨_, rfl⟩
  rw [hO]
  have HE : Hid ((if G = [] ∧ x ≤ 0 then (([] : List Tx), false) else (G, true)) = O) := by show _ = _; rw [← hO]; unfold endP; simp only [grant_eq, hG, hx]
  obtain ⟨nS, hnS⟩ : ∃ n, S.length = n := ⟨_, rfl⟩
  obtain ⟨nU, hnU⟩ : ∃ n, U.length = n := ⟨_, rfl⟩
  obtain ⟨ua, uc, rfl, huc⟩ := hu.form
  obtain ⟨va, vc, rfl, hvc⟩ := hv.form
  rw [hnS] at hu hS huc ⊢
  rw [hnU] at hv hU hvc ⊢
  have HX : Hid (TxS w (.slice ua nS uc) S ∧ TxS w (.slice va nU vc) U ∧ S.length = nS ∧ U.length = nU) := ⟨hu, hv, hnS, hnU⟩
  have HInU : Hid (∀ (w1 : World) (s : Tx), Below w.heap.size w w1 → Calls Tryd.prog 23 #[encStr s, .slice va nU vc] w1 fun e w' => e = .returned (.bool (decide (s ∈ U))) ∧ Below w1.heap.size w1 w') := fun w1 s h => in_any s _ U (hv.below h) (by omega)
  have HInS : Hid (∀ (w1 : World) (s : Tx), Below w.heap.size w w1 → Calls Tryd.prog 23 #[encStr s, .slice ua nS uc] w1 fun e w' => e = .returned (.bool (decide (s ∈ S))) ∧ Below w1.heap.size w1 w') := fun w1 s h => in_any s _ S (hu.below h) (by omega)
  have HF : Hid (fr = (decide (U = []) || decide (anyP ∈ U)) ∧ rgrant S U = G) := ⟨hfr.symm, hG⟩
  have HXC : Hid ((if cr = 0 then 0 else less pe) = x) := hx
  obtain ⟨W0, hW0⟩ : ∃ W0 : World, (w.alloc (.cells #[.slice ua nS uc, .int .i64 pe, .int .i64 pa] 25)).alloc (.cells #[.slice none 0 0, .slice none 0 0, .slice none 0 0, ci, cs, .int .i64 0, .int .i64 0, .int .i64 0, .slice none 0 0, .slice none 0 0, .slice none 0 0, .slice none 0 0, .int .i64 0, .int .i64 0, .int .i64 0, .int .i64 0, .slice none 0 0, .bool false, .int .i64 0, .int .i64 0, .slice none 0 0, .bool false, .slice none 0 0, .slice none 0 0, .slice none 0 0, cp, .int .i64 cr, .int .i64 ch, .slice none 0 0, .slice none 0 0, .bool false] 48) = W0 := ⟨_, rfl⟩
  have HW : Hid (Below w.heap.size w W0 ∧ Blk 25 W0 w.heap.size [.slice ua nS uc, .int .i64 pe, .int .i64 pa] ∧ Blk 48 W0 (w.heap.size + 1) [.slice none 0 0, .slice none 0 0, .slice none 0 0, ci, cs, .int .i64 0, .int .i64 0, .int .i64 0, .slice none 0 0, .slice none 0 0, .slice none 0 0, .slice none 0 0, .int .i64 0, .int .i64 0, .int .i64 0, .int .i64 0, .slice none 0 0, .bool false, .int .i64 0, .int .i64 0, .slice none 0 0, .bool false, .slice none 0 0, .slice none 0 0, .slice none 0 0, cp, .int .i64 cr, .int .i64 ch, .slice none 0 0, .slice none 0 0, .bool false]) := by
    rw [← hW0]
    have h1 := Blk.new 48 (w.alloc (.cells #[.slice ua nS uc, .int .i64 pe, .int .i64 pa] 25)) [.slice none 0 0, .slice none 0 0, .slice none 0 0, ci, cs, .int .i64 0, .int .i64 0, .int .i64 0, .slice none 0 0, .slice none 0 0, .slice none 0 0, .slice none 0 0, .int .i64 0, .int .i64 0, .int .i64 0, .int .i64 0, .slice none 0 0, .bool false, .int .i64 0, .int .i64 0, .slice none 0 0, .bool false, .slice none 0 0, .slice none 0 0, .slice none 0 0, cp, .int .i64 cr, .int .i64 ch, .slice none 0 0, .slice none 0 0, .bool false]
    rw [show (w.alloc (.cells #[.slice ua nS uc, .int .i64 pe, .int .i64 pa] 25)).heap.size = w.heap.size + 1 by simp] at h1
    exact ⟨((Below.refl _ _).alloc (Nat.le_refl _) _).alloc ((Below.refl _ _).alloc (Nat.le_refl _) _).size _, (Blk.new 25 w [.slice ua nS uc, .int .i64 pe, .int .i64 pa]).alloc _, h1⟩
  have HC : Hid (∀ W : World, Below W0.heap.size W0 W → W.cell? ⟨w.heap.size, 0, none⟩ = some (.slice ua nS uc) ∧ Below w.heap.size w W) := fun W h => ⟨(below_blk h HW.out.2.1.lt HW.out.2.1).cell 0, HW.out.1.trans (h.mono HW.out.1.size)⟩
  have p1 : W0.cell? ⟨w.heap.size, 1, none⟩ = some (.int .i64 pe) := HW.out.2.1.cell 1
  have p26 : W0.cell? ⟨w.heap.size + 1, 26, none⟩ = some (.int .i64 cr) := HW.out.2.2.cell 26
  clear hu hv hx hG hO hfr hnS hnU
  go_enter Tryd.func14, Tryd.ntmps14
  go_upto_if 16 with (fail)
  go_cut [8] from 17 to 18 (fun s8 wc => s8 = .int .i64 (less pe) ∧ W0 = wc)
  case first =>
    by_cases h : 0 < pe
    · have HL : Hid (less pe = pe - 1) := if_pos h
      have hwp : IntKind.i64.wrap (pe - 1) = pe - 1 := by rw [IntKind.wrap_i64]; omega
      go_wp2
      go_meet
      case rel => exact ⟨by rw [HL.out], rfl⟩
    · have HL : Hid (less pe = pe) := if_neg h
      go_wp2
      go_meet
      case rel => exact ⟨by rw [HL.out], rfl⟩
  case rest =>
    obtain ⟨rfl, rfl⟩ := hcut
    go_upto_if 21 with (fail)
    go_cut [8] from 21 to 21 (fun s8 wc => s8 = .int .i64 x ∧ W0 = wc)
    case first =>
      by_cases h : cr = 0
      · subst h
        have HL : Hid (x = 0) := by have := HXC.out; rw [if_pos rfl] at this; exact this.symm
        go_wp2
        go_meet
        case rel => exact ⟨by rw [HL.out], rfl⟩
      · have HL : Hid (x = less pe) := by have := HXC.out; rw [if_neg h] at this; exact this.symm
        have hb : (cr == 0) = false := by simpa using h
        go_wp2
        go_meet
        case rel => exact ⟨by rw [HL.out], rfl⟩
    case rest =>
      obtain ⟨rfl, rfl⟩ := hcut
      go_upto_region 7 with (fail)
      go_cut [10] from 22 to 28 (fun s10 wc => s10 = .bool fr ∧ Below W0.heap.size W0 wc)
      case first =>
        by_cases h : nU = 0
        · subst h
          have HL : Hid (fr = true) := by rw [HF.out.1, decide_eq_true (List.eq_nil_of_length_eq_zero HX.out.2.2.2)]; rfl
          go_wp2
          go_meet
          case rel => exact ⟨by rw [HL.out], Below.refl _ _⟩
        · have hb : ((nU : Int) == 0) = false := by simpa using h
          have hn : ¬ (nU : Int) = 0 := by omega
          have HL : Hid (fr = decide (anyP ∈ U)) := by rw [HF.out.1, decide_eq_false (fun e => h (by rw [← HX.out.2.2.2, e]; rfl))]; rfl
          go_wp2_with (first
            | (go_at_call 23; refine (HInU.out _ anyP HW.out.1).mono ?_; rintro e w1 ⟨rfl, hb1⟩)
            | go_in)
          go_meet
          case rel => exact ⟨by rw [HL.out], hb1⟩
      case rest =>
        obtain ⟨rfl, hbw⟩ := hcut
        have HBw : Hid (Below W0.heap.size W0 wc) := hbw
        have hrg := rgrant_is S U fr HF.out.1.symm
        rw [HF.out.2] at hrg
        have HRG : Hid (G = if !fr && decide (anyP ∈ S) then U.foldl put (S.foldl (ask fr U) []) else S.foldl (ask fr U) []) := hrg
        clear hrg hbw p1 p26 hW0
        have HP : Hid (∀ (W : World) (ov : Value) (M : List Tx) (s : Tx), TxS W ov M → M.length ≤ 524288 → s.length ≤ maxLen → Calls Tryd.prog 24 #[ov, encStr s] W fun e w' => ∃ r, e = .returned r ∧ TxS w' r (put M s) ∧ Below W.heap.size W w') := fun W ov M s h1 h2 h3 => Put_any ov M s h1 h2 h3
        go_wp2
        go_loopw [9, 11] (fun ov iv wr => ∃ i : Nat, iv = .int .i64 (i : Int) ∧ i ≤ nS ∧ TxS wr ov ((S.take i).foldl (ask fr U) []) ∧ Below W0.heap.size W0 wr) (fun _ iv _ => nS - (intOf iv).toNat)
        case atStart => exact ⟨0, rfl, Nat.zero_le _, TxS.nil _, HBw.out⟩
        case round =>
          obtain ⟨i, rfl, hi, hT, hbl⟩ := hrel
          have q0 := (HC.out wr hbl).1
          by_cases hlt : i < nS
          · have hltI : (i : Int) < (nS : Int) := by omega
            have hiS : i < S.length := by rw [HX.out.2.2.1]; exact hlt
            obtain ⟨b, off, rfl, q1, hsl⟩ := (HX.out.1.below (HC.out wr hbl).2).at hiS
            obtain ⟨s, hs⟩ : ∃ s, S[i] = s := ⟨_, rfl⟩
            rw [hs] at q1 hsl
            have HK : Hid ((S.take (i + 1)).foldl (ask fr U) [] = ask fr U ((S.take i).foldl (ask fr U) []) s) := by show _ = _; rw [fold_take _ _ _ hiS, hs]
            have hml : ((S.take i).foldl (ask fr U) []).length ≤ 524288 := by
              have := ask_len fr U (S.take i) []
              rw [List.length_take] at this
              simp at this
              omega
            obtain ⟨M, hM⟩ : ∃ M, (S.take i).foldl (ask fr U) [] = M := ⟨_, rfl⟩
            rw [hM] at HK hml hT
            have HT : Hid (TxS wr u9 M ∧ M.length ≤ 524288 ∧ Below W0.heap.size W0 wr ∧ Below w.heap.size w wr) := ⟨hT, hml, hbl, (HC.out wr hbl).2⟩
            have HQ : Hid (∀ w2 : World, Below wr.heap.size wr w2 → w2.cell? ⟨w.heap.size, 0, none⟩ = some (.slice (some ⟨b, off, none⟩) nS uc) ∧ w2.cell? ⟨b, off + i, none⟩ = some (encStr s) ∧ Below W0.heap.size W0 w2) := fun w2 h2 => by
              have hb2 := below_via HT.out.2.2.1 h2 (Nat.le_refl _)
              refine ⟨(HC.out w2 hb2).1, ?_, hb2⟩
              obtain ⟨b', off', e', q1', _⟩ := (HX.out.1.below (HC.out w2 hb2).2).at hiS
              injection e' with e'
              injection e' with e1 e2
              subst e1; subst e2
              rw [hs] at q1'
              exact q1'
            clear hT hbl hM hml hs
            cases fr with
            | true =>
              have HA : Hid (ask true U M s = put M s) := rfl
              go_wp2_with (first
                | (go_at_call 24; refine (HP.out _ _ M s HT.out.1 HT.out.2.1 hsl).mono ?_; rintro e w3 ⟨r, rfl, hr, hb3⟩)
                | go_in)
              go_roundw
              case rel => exact ⟨i + 1, by go_num, by omega, by rw [HK.out, HA.out]; exact hr, below_via HT.out.2.2.1 hb3 (Nat.le_refl _)⟩
              case measure => simp [intOf]; omega
            | false =>
              by_cases hm : s ∈ U
              · have HA : Hid (ask false U M s = put M s) := by show _ = _; unfold ask; rw [decide_eq_true hm]; rfl
                have hd : decide (s ∈ U) = true := decide_eq_true hm
                clear hm
                go_wp2_with (first
                  | (go_at_call 24; refine (HP.out _ _ M s HT2.out.1 HT.out.2.1 hsl).mono ?_; rintro e w3 ⟨r, rfl, hr, hb3⟩)
                  | (go_at_call 23; refine (HInU.out _ s HT.out.2.2.2).mono ?_; rintro e w2 ⟨rfl, hb2⟩; rw [hd]; obtain ⟨q0b, q1b, hq3⟩ := HQ.out w2 hb2; have HT2 : Hid (TxS w2 u9 M ∧ Below W0.heap.size W0 w2) := ⟨HT.out.1.below hb2, hq3⟩)
                  | go_in)
                go_roundw
                case rel => exact ⟨i + 1, by go_num, by omega, by rw [HK.out, HA.out]; exact hr, below_via HT2.out.2 hb3 (Nat.le_refl _)⟩
                case measure => simp [intOf]; omega
              · have HA : Hid (ask false U M s = M) := by show _ = _; unfold ask; rw [decide_eq_false hm]; rfl
                have hd : decide (s ∈ U) = false := decide_eq_false hm
                clear hm
                go_wp2_with (first
                  | (go_at_call 23; refine (HInU.out _ s HT.out.2.2.2).mono ?_; rintro e w2 ⟨rfl, hb2⟩; rw [hd])
                  | go_in)
                go_roundw
                case rel => exact ⟨i + 1, by go_num, by omega, by rw [HK.out, HA.out]; exact HT.out.1.below hb2, below_via HT.out.2.2.1 hb2 (Nat.le_refl _)⟩
                case measure => simp [intOf]; omega
          · obtain rfl : i = nS := by omega
            have hltI : ¬ (i : Int) < (i : Int) := by omega
            rw [List.take_of_length_le (Nat.le_of_eq HX.out.2.2.1)] at hT
            have hml : (S.foldl (ask fr U) []).length ≤ 200000 := by
              have := ask_len fr U S []
              rw [HX.out.2.2.1] at this
              simp at this
              omega
            obtain ⟨M, hM⟩ : ∃ M, S.foldl (ask fr U) [] = M := ⟨_, rfl⟩
            have HRM : Hid (G = if !fr && decide (anyP ∈ S) then U.foldl put M else M) := by show _ = _; rw [← hM]; exact HRG.out
            rw [hM] at hml hT
            have HT : Hid (TxS wr u9 M ∧ M.length ≤ 200000 ∧ Below W0.heap.size W0 wr) := ⟨hT, hml, hbl⟩
            clear hT hml hbl hM HRG
            obtain ⟨gl, hgl⟩ : ∃ gl, G.length = gl := ⟨_, rfl⟩
            have HGL : Hid (G.length = gl) := hgl
            clear hgl
            obtain ⟨gg, hgg⟩ : ∃ gg, (!fr && decide (anyP ∈ S)) = gg := ⟨_, rfl⟩
            have HGG : Hid ((!fr && decide (anyP ∈ S)) = gg) := hgg
            have HRM2 : Hid (G = if gg = true then U.foldl put M else M) := by show _ = _; rw [← hgg]; exact HRM.out
            clear hgg HRM
            go_wp2
            go_loopw [9, 12] (fun ov iv wr => ∃ k : Nat, iv = .int .i64 (k : Int) ∧ k ≤ nU ∧ (gg = false → k = 0) ∧ TxS wr ov ((U.take k).foldl put M) ∧ Below W0.heap.size W0 wr) (fun _ iv _ => nU - (intOf iv).toNat)
            case atStart => exact ⟨0, rfl, Nat.zero_le _, fun _ => rfl, HT.out.1, HT.out.2.2⟩
            case round =>
              obtain ⟨k, rfl, hk, hk0, hT, hbl⟩ := hrel
              have q0 := (HC.out wr hbl).1
              by_cases hkn : k < nU
              · have hknI : (k : Int) < (nU : Int) := by omega
                cases fr with
                | true =>
                  have hgf : gg = false := HGG.out.symm
                  obtain rfl := hk0 hgf
                  have HGM : Hid (G = M) := by have := HRM2.out; rw [hgf] at this; exact this
                  have HV : Hid (TxS wr u9 G ∧ Below w.heap.size w wr) := ⟨by rw [HGM.out]; exact hT, (HC.out wr hbl).2⟩
                  obtain ⟨ga, gc, hov⟩ : ∃ ga gc, u9 = .slice ga gl gc := by obtain ⟨a, c, h, _⟩ := HV.out.1.form; exact ⟨a, c, by rw [h, HGL.out]⟩
                  subst hov
                  have hO := HE.out
                  clear HE hT hbl
                  by_cases hx0 : 0 < x
                  · rw [if_neg (fun h => absurd h.2 (by omega))] at hO
                    subst hO
                    go_wp2
                    go_ret2
                    exact ⟨⟨_, rfl, HV.out.1⟩, HV.out.2⟩
                  · by_cases hz : gl = 0
                    · subst hz
                      rw [if_pos ⟨List.eq_nil_of_length_eq_zero HGL.out, by omega⟩] at hO
                      subst hO
                      go_wp2
                      go_ret2
                      exact ⟨⟨_, rfl, TxS.nil _⟩, HV.out.2⟩
                    · have hgp : 0 < (gl : Int) := by omega
                      have hgN : 0 < gl := by omega
                      rw [if_neg (fun h => hz (by rw [← HGL.out, h.1]; rfl))] at hO
                      subst hO
                      go_wp2
                      go_ret2
                      exact ⟨⟨_, rfl, HV.out.1⟩, HV.out.2⟩
                | false =>
                  by_cases ha : anyP ∈ S
                  · have hd : decide (anyP ∈ S) = true := decide_eq_true ha
                    have hgt : gg = true := by have := HGG.out; rw [hd] at this; exact this.symm
                    have hkU : k < U.length := by rw [HX.out.2.2.2]; exact hkn
                    obtain ⟨b, off, rfl, q1, hsl⟩ := (HX.out.2.1.below (HC.out wr hbl).2).at hkU
                    obtain ⟨s, hs⟩ : ∃ s, U[k] = s := ⟨_, rfl⟩
                    rw [hs] at q1 hsl
                    have HK : Hid ((U.take (k + 1)).foldl put M = put ((U.take k).foldl put M) s) := by show _ = _; rw [fold_take _ _ _ hkU, hs]
                    have hml : ((U.take k).foldl put M).length ≤ 524288 := by
                      have := fput_len (U.take k) M
                      have := HT.out.2.1
                      rw [List.length_take] at *
                      omega
                    obtain ⟨M2, hM2⟩ : ∃ M2, (U.take k).foldl put M = M2 := ⟨_, rfl⟩
                    rw [hM2] at HK hml hT
                    have HT2 : Hid (TxS wr u9 M2 ∧ M2.length ≤ 524288 ∧ Below W0.heap.size W0 wr ∧ Below w.heap.size w wr) := ⟨hT, hml, hbl, (HC.out wr hbl).2⟩
                    have HQ : Hid (∀ w2 : World, Below wr.heap.size wr w2 → w2.cell? ⟨b, off + k, none⟩ = some (encStr s) ∧ Below W0.heap.size W0 w2) := fun w2 h2 => by
                      have hb2 := below_via HT2.out.2.2.1 h2 (Nat.le_refl _)
                      refine ⟨?_, hb2⟩
                      obtain ⟨b', off', e', q1', _⟩ := (HX.out.2.1.below (HC.out w2 hb2).2).at hkU
                      injection e' with e'
                      injection e' with e1 e2
                      subst e1; subst e2
                      rw [hs] at q1'
                      exact q1'
                    clear hT hbl hM2 hml hs ha
                    go_wp2_with (first
                      | (go_at_call 23; refine (HInS.out _ anyP HT2.out.2.2.2).mono ?_; rintro e w2 ⟨rfl, hb2⟩; rw [hd]; obtain ⟨q1b, hq3⟩ := HQ.out w2 hb2; have HT3 : Hid (TxS w2 u9 M2 ∧ Below W0.heap.size W0 w2) := ⟨HT2.out.1.below hb2, hq3⟩)
                      | (go_at_call 24; refine (HP.out _ _ M2 s HT3.out.1 HT2.out.2.1 hsl).mono ?_; rintro e w3 ⟨r, rfl, hr, hb3⟩)
                      | go_in)
                    go_roundw
                    case rel => exact ⟨k + 1, by go_num, by omega, (fun h => by rw [hgt] at h; cases h), by rw [HK.out]; exact hr, below_via HT3.out.2 hb3 (Nat.le_refl _)⟩
                    case measure => simp [intOf]; omega
                  · have hd : decide (anyP ∈ S) = false := decide_eq_false ha
                    have hgf : gg = false := by have := HGG.out; rw [hd] at this; exact this.symm
                    obtain rfl := hk0 hgf
                    have HGM : Hid (G = M) := by have := HRM2.out; rw [hgf] at this; exact this
                    clear ha
                    have HV : Hid (TxS wr u9 G ∧ Below w.heap.size w wr) := ⟨by rw [HGM.out]; exact hT, (HC.out wr hbl).2⟩
                    obtain ⟨ga, gc, hov⟩ : ∃ ga gc, u9 = .slice ga gl gc := by obtain ⟨a, c, h, _⟩ := HV.out.1.form; exact ⟨a, c, by rw [h, HGL.out]⟩
                    subst hov
                    have hO := HE.out
                    clear HE hT hbl
                    by_cases hx0 : 0 < x
                    · rw [if_neg (fun h => absurd h.2 (by omega))] at hO
                      subst hO
                      go_wp2_with (first | (go_at_call 23; refine (HInS.out _ anyP HV.out.2).mono ?_; rintro e w2 ⟨rfl, hb2⟩; rw [hd]) | go_in)
                      go_ret2
                      exact ⟨⟨_, rfl, HV.out.1.below hb2⟩, HV.out.2.trans (hb2.mono HV.out.2.size)⟩
                    · by_cases hz : gl = 0
                      · subst hz
                        rw [if_pos ⟨List.eq_nil_of_length_eq_zero HGL.out, by omega⟩] at hO
                        subst hO
                        go_wp2_with (first | (go_at_call 23; refine (HInS.out _ anyP HV.out.2).mono ?_; rintro e w2 ⟨rfl, hb2⟩; rw [hd]) | go_in)
                        go_ret2
                        exact ⟨⟨_, rfl, TxS.nil _⟩, HV.out.2.trans (hb2.mono HV.out.2.size)⟩
                      · have hgp : 0 < (gl : Int) := by omega
                        have hgN : 0 < gl := by omega
                        rw [if_neg (fun h => hz (by rw [← HGL.out, h.1]; rfl))] at hO
                        subst hO
                        go_wp2_with (first | (go_at_call 23; refine (HInS.out _ anyP HV.out.2).mono ?_; rintro e w2 ⟨rfl, hb2⟩; rw [hd]) | go_in)
                        go_ret2
                        exact ⟨⟨_, rfl, HV.out.1.below hb2⟩, HV.out.2.trans (hb2.mono HV.out.2.size)⟩
              · obtain rfl : k = nU := by omega
                have hknI : ¬ (k : Int) < (k : Int) := by omega
                have HGM : Hid (G = (U.take k).foldl put M) := by
                  show _ = _
                  rw [HRM2.out]
                  cases gg with
                  | true => rw [if_pos rfl, List.take_of_length_le (Nat.le_of_eq HX.out.2.2.2)]
                  | false => rw [if_neg (by simp), hk0 rfl]; rfl
                have HV : Hid (TxS wr u9 G ∧ Below w.heap.size w wr) := ⟨by rw [HGM.out]; exact hT, (HC.out wr hbl).2⟩
                obtain ⟨ga, gc, hov⟩ : ∃ ga gc, u9 = .slice ga gl gc := by obtain ⟨a, c, h, _⟩ := HV.out.1.form; exact ⟨a, c, by rw [h, HGL.out]⟩
                subst hov
                have hO := HE.out
                clear HE hT hbl
                by_cases hx0 : 0 < x
                · rw [if_neg (fun h => absurd h.2 (by omega))] at hO
                  subst hO
                  go_wp2
                  go_ret2
                  exact ⟨⟨_, rfl, HV.out.1⟩, HV.out.2⟩
                · by_cases hz : gl = 0
                  · subst hz
                    rw [if_pos ⟨List.eq_nil_of_length_eq_zero HGL.out, by omega⟩] at hO
                    subst hO
                    go_wp2
                    go_ret2
                    exact ⟨⟨_, rfl, TxS.nil _⟩, HV.out.2⟩
                  · have hgp : 0 < (gl : Int) := by omega
                    have hgN : 0 < gl := by omega
                    rw [if_neg (fun h => hz (by rw [← HGL.out, h.1]; rfl))] at hO
                    subst hO
                    go_wp2
                    go_ret2
                    exact ⟨⟨_, rfl, HV.out.1⟩, HV.out.2⟩
end Go.Proofs.YtkjdihikcgpabaaDoor
