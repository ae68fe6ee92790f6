/-
  Numbers that are primes.
-/
import Derived.Test.YtjmiaakfdclfjaaGreatDoorK26
namespace Go.Proofs.YtjmiaakfdclfjaaGreatDoor.Pm
theorem pr2_181 : Pr 1181 := pr_td _ 36 (by decide) (by decide +kernel)
theorem pr3_19 : Pr 19 := pr_td _ 6 (by decide) (by decide +kernel)
theorem pr1_901_w : pw 24682901 2 25 (24682901 - 1) = 1 := by decide +kernel
theorem pr1_901_F (r : Nat) (hr : Pr r) (hd : r ∣ 24682901) : 22439 ∣ r - 1 := by
  have h0 : 1181 ^ 1 ∣ r - 1 := pock1' (N := 24682901) (a := 2) (q := 1181) (e := 1) (f := 25) (by decide +kernel) (by decide) hr hd (by decide) pr2_181 (by decide +kernel) pr1_901_w (by decide +kernel)
  have h1 : 19 ^ 1 ∣ r - 1 := pock1' (N := 24682901) (a := 2) (q := 19) (e := 1) (f := 25) (by decide +kernel) (by decide) hr hd (by decide) pr3_19 (by decide +kernel) pr1_901_w (by decide +kernel)
  have g0 : 1181 ∣ r - 1 := h0
  have k1 : 19 ∣ r - 1 := h1
  have g1 : 1181 * 19 ∣ r - 1 := Nat.Coprime.mul_dvd_of_dvd_of_dvd (by decide +kernel) g0 k1
  exact g1
theorem pr1_901 : Pr 24682901 := pock2 (F := 22439) (by decide) pr1_901_F (by decide +kernel)
theorem pr4_667 : Pr 5596667 := pr_td _ 2367 (by decide) (by decide +kernel)
theorem pr5_181 : Pr 583181 := pr_td _ 765 (by decide) (by decide +kernel)
theorem pr6_531 : Pr 23531 := pr_td _ 155 (by decide) (by decide +kernel)
theorem pr7_17 : Pr 17 := pr_td _ 6 (by decide) (by decide +kernel)
theorem pr8_5 : Pr 5 := pr_td _ 4 (by decide) (by decide +kernel)
theorem pr9_2 : Pr 2 := pr_td _ 3 (by decide) (by decide +kernel)
theorem pr0_71_w : pw 88900632503243351461199153429459154332975524503983981294509376062221862617071 13 256 (88900632503243351461199153429459154332975524503983981294509376062221862617071 - 1) = 1 := by decide +kernel
theorem pr0_71_F (r : Nat) (hr : Pr r) (hd : r ∣ 88900632503243351461199153429459154332975524503983981294509376062221862617071) : 322268857980313797207027290 ∣ r - 1 := by
  have h0 : 24682901 ^ 1 ∣ r - 1 := pock1' (N := 88900632503243351461199153429459154332975524503983981294509376062221862617071) (a := 13) (q := 24682901) (e := 1) (f := 256) (by decide +kernel) (by decide) hr hd (by decide) pr1_901 (by decide +kernel) pr0_71_w (by decide +kernel)
  have h1 : 5596667 ^ 1 ∣ r - 1 := pock1' (N := 88900632503243351461199153429459154332975524503983981294509376062221862617071) (a := 13) (q := 5596667) (e := 1) (f := 256) (by decide +kernel) (by decide) hr hd (by decide) pr4_667 (by decide +kernel) pr0_71_w (by decide +kernel)
  have h2 : 583181 ^ 1 ∣ r - 1 := pock1' (N := 88900632503243351461199153429459154332975524503983981294509376062221862617071) (a := 13) (q := 583181) (e := 1) (f := 256) (by decide +kernel) (by decide) hr hd (by decide) pr5_181 (by decide +kernel) pr0_71_w (by decide +kernel)
  have h3 : 23531 ^ 1 ∣ r - 1 := pock1' (N := 88900632503243351461199153429459154332975524503983981294509376062221862617071) (a := 13) (q := 23531) (e := 1) (f := 256) (by decide +kernel) (by decide) hr hd (by decide) pr6_531 (by decide +kernel) pr0_71_w (by decide +kernel)
  have h4 : 17 ^ 1 ∣ r - 1 := pock1' (N := 88900632503243351461199153429459154332975524503983981294509376062221862617071) (a := 13) (q := 17) (e := 1) (f := 256) (by decide +kernel) (by decide) hr hd (by decide) pr7_17 (by decide +kernel) pr0_71_w (by decide +kernel)
  have h5 : 5 ^ 1 ∣ r - 1 := pock1' (N := 88900632503243351461199153429459154332975524503983981294509376062221862617071) (a := 13) (q := 5) (e := 1) (f := 256) (by decide +kernel) (by decide) hr hd (by decide) pr8_5 (by decide +kernel) pr0_71_w (by decide +kernel)
  have h6 : 2 ^ 1 ∣ r - 1 := pock1' (N := 88900632503243351461199153429459154332975524503983981294509376062221862617071) (a := 13) (q := 2) (e := 1) (f := 256) (by decide +kernel) (by decide) hr hd (by decide) pr9_2 (by decide +kernel) pr0_71_w (by decide +kernel)
  have g0 : 24682901 ∣ r - 1 := h0
  have k1 : 5596667 ∣ r - 1 := h1
  have g1 : 24682901 * 5596667 ∣ r - 1 := Nat.Coprime.mul_dvd_of_dvd_of_dvd (by decide +kernel) g0 k1
  replace g1 : 138141977490967 ∣ r - 1 := g1
  have k2 : 583181 ∣ r - 1 := h2
  have g2 : 138141977490967 * 583181 ∣ r - 1 := Nat.Coprime.mul_dvd_of_dvd_of_dvd (by decide +kernel) g1 k2
  replace g2 : 80561776575159626027 ∣ r - 1 := g2
  have k3 : 23531 ∣ r - 1 := h3
  have g3 : 80561776575159626027 * 23531 ∣ r - 1 := Nat.Coprime.mul_dvd_of_dvd_of_dvd (by decide +kernel) g2 k3
  replace g3 : 1895699164590081160041337 ∣ r - 1 := g3
  have k4 : 17 ∣ r - 1 := h4
  have g4 : 1895699164590081160041337 * 17 ∣ r - 1 := Nat.Coprime.mul_dvd_of_dvd_of_dvd (by decide +kernel) g3 k4
  replace g4 : 32226885798031379720702729 ∣ r - 1 := g4
  have k5 : 5 ∣ r - 1 := h5
  have g5 : 32226885798031379720702729 * 5 ∣ r - 1 := Nat.Coprime.mul_dvd_of_dvd_of_dvd (by decide +kernel) g4 k5
  replace g5 : 161134428990156898603513645 ∣ r - 1 := g5
  have k6 : 2 ∣ r - 1 := h6
  have g6 : 161134428990156898603513645 * 2 ∣ r - 1 := Nat.Coprime.mul_dvd_of_dvd_of_dvd (by decide +kernel) g5 k6
  exact g6
theorem pr0_71 : Pr 88900632503243351461199153429459154332975524503983981294509376062221862617071 := pock3 (F := 322268857980313797207027290) (c1 := 66191150145483845002171243) (c2 := 855988974304525048108916) (s := 66191150145483845002171242) (by decide) pr0_71_F (by decide +kernel) (by decide +kernel) (by decide) (by decide +kernel) (.inr ⟨by decide +kernel, by decide +kernel⟩)
theorem pr13_579 : Pr 556579 := pr_td _ 748 (by decide) (by decide +kernel)
theorem pr12_849_w : pw 62336849 2 26 (62336849 - 1) = 1 := by decide +kernel
theorem pr12_849_F (r : Nat) (hr : Pr r) (hd : r ∣ 62336849) : 556579 ∣ r - 1 := by
  have h0 : 556579 ^ 1 ∣ r - 1 := pock1' (N := 62336849) (a := 2) (q := 556579) (e := 1) (f := 26) (by decide +kernel) (by decide) hr hd (by decide) pr13_579 (by decide +kernel) pr12_849_w (by decide +kernel)
  have g0 : 556579 ∣ r - 1 := h0
  exact g0
theorem pr12_849 : Pr 62336849 := pock2 (F := 556579) (by decide) pr12_849_F (by decide +kernel)
theorem pr11_697_w : pw 413524204558697 2 49 (413524204558697 - 1) = 1 := by decide +kernel
theorem pr11_697_F (r : Nat) (hr : Pr r) (hd : r ∣ 413524204558697) : 62336849 ∣ r - 1 := by
  have h0 : 62336849 ^ 1 ∣ r - 1 := pock1' (N := 413524204558697) (a := 2) (q := 62336849) (e := 1) (f := 49) (by decide +kernel) (by decide) hr hd (by decide) pr12_849 (by decide +kernel) pr11_697_w (by decide +kernel)
  have g0 : 62336849 ∣ r - 1 := h0
  exact g0
theorem pr11_697 : Pr 413524204558697 := pock2 (F := 62336849) (by decide) pr11_697_F (by decide +kernel)
theorem pr17_241 : Pr 241 := pr_td _ 17 (by decide) (by decide +kernel)
theorem pr18_79 : Pr 79 := pr_td _ 10 (by decide) (by decide +kernel)
theorem pr16_661_w : pw 17896661 2 25 (17896661 - 1) = 1 := by decide +kernel
theorem pr16_661_F (r : Nat) (hr : Pr r) (hd : r ∣ 17896661) : 19039 ∣ r - 1 := by
  have h0 : 241 ^ 1 ∣ r - 1 := pock1' (N := 17896661) (a := 2) (q := 241) (e := 1) (f := 25) (by decide +kernel) (by decide) hr hd (by decide) pr17_241 (by decide +kernel) pr16_661_w (by decide +kernel)
  have h1 : 79 ^ 1 ∣ r - 1 := pock1' (N := 17896661) (a := 2) (q := 79) (e := 1) (f := 25) (by decide +kernel) (by decide) hr hd (by decide) pr18_79 (by decide +kernel) pr16_661_w (by decide +kernel)
  have g0 : 241 ∣ r - 1 := h0
  have k1 : 79 ∣ r - 1 := h1
  have g1 : 241 * 79 ∣ r - 1 := Nat.Coprime.mul_dvd_of_dvd_of_dvd (by decide +kernel) g0 k1
  exact g1
theorem pr16_661 : Pr 17896661 := pock2 (F := 19039) (by decide) pr16_661_F (by decide +kernel)
theorem pr15_967_w : pw 107379967 2 27 (107379967 - 1) = 1 := by decide +kernel
theorem pr15_967_F (r : Nat) (hr : Pr r) (hd : r ∣ 107379967) : 17896661 ∣ r - 1 := by
  have h0 : 17896661 ^ 1 ∣ r - 1 := pock1' (N := 107379967) (a := 2) (q := 17896661) (e := 1) (f := 27) (by decide +kernel) (by decide) hr hd (by decide) pr16_661 (by decide +kernel) pr15_967_w (by decide +kernel)
  have g0 : 17896661 ∣ r - 1 := h0
  exact g0
theorem pr15_967 : Pr 107379967 := pock2 (F := 17896661) (by decide) pr15_967_F (by decide +kernel)
theorem pr14_803_w : pw 644279803 2 30 (644279803 - 1) = 1 := by decide +kernel
theorem pr14_803_F (r : Nat) (hr : Pr r) (hd : r ∣ 644279803) : 107379967 ∣ r - 1 := by
  have h0 : 107379967 ^ 1 ∣ r - 1 := pock1' (N := 644279803) (a := 2) (q := 107379967) (e := 1) (f := 30) (by decide +kernel) (by decide) hr hd (by decide) pr15_967 (by decide +kernel) pr14_803_w (by decide +kernel)
  have g0 : 107379967 ∣ r - 1 := h0
  exact g0
theorem pr14_803 : Pr 644279803 := pock2 (F := 107379967) (by decide) pr14_803_F (by decide +kernel)
theorem pr20_607 : Pr 607 := pr_td _ 26 (by decide) (by decide +kernel)
theorem pr21_229 : Pr 229 := pr_td _ 17 (by decide) (by decide +kernel)
theorem pr19_237_w : pw 57269237 2 26 (57269237 - 1) = 1 := by decide +kernel
theorem pr19_237_F (r : Nat) (hr : Pr r) (hd : r ∣ 57269237) : 139003 ∣ r - 1 := by
  have h0 : 607 ^ 1 ∣ r - 1 := pock1' (N := 57269237) (a := 2) (q := 607) (e := 1) (f := 26) (by decide +kernel) (by decide) hr hd (by decide) pr20_607 (by decide +kernel) pr19_237_w (by decide +kernel)
  have h1 : 229 ^ 1 ∣ r - 1 := pock1' (N := 57269237) (a := 2) (q := 229) (e := 1) (f := 26) (by decide +kernel) (by decide) hr hd (by decide) pr21_229 (by decide +kernel) pr19_237_w (by decide +kernel)
  have g0 : 607 ∣ r - 1 := h0
  have k1 : 229 ∣ r - 1 := h1
  have g1 : 607 * 229 ∣ r - 1 := Nat.Coprime.mul_dvd_of_dvd_of_dvd (by decide +kernel) g0 k1
  exact g1
theorem pr19_237 : Pr 57269237 := pock2 (F := 139003) (by decide) pr19_237_F (by decide +kernel)
theorem pr22_33 : Pr 5543033 := pr_td _ 2356 (by decide) (by decide +kernel)
theorem pr10_157_w : pw 97384937673999542200773646991410189597600124392557061578446940566750935936157 2 256 (97384937673999542200773646991410189597600124392557061578446940566750935936157 - 1) = 1 := by decide +kernel
theorem pr10_157_F (r : Nat) (hr : Pr r) (hd : r ∣ 97384937673999542200773646991410189597600124392557061578446940566750935936157) : 338301796960486305880034802901406833244 ∣ r - 1 := by
  have h0 : 413524204558697 ^ 1 ∣ r - 1 := pock1' (N := 97384937673999542200773646991410189597600124392557061578446940566750935936157) (a := 2) (q := 413524204558697) (e := 1) (f := 256) (by decide +kernel) (by decide) hr hd (by decide) pr11_697 (by decide +kernel) pr10_157_w (by decide +kernel)
  have h1 : 644279803 ^ 1 ∣ r - 1 := pock1' (N := 97384937673999542200773646991410189597600124392557061578446940566750935936157) (a := 2) (q := 644279803) (e := 1) (f := 256) (by decide +kernel) (by decide) hr hd (by decide) pr14_803 (by decide +kernel) pr10_157_w (by decide +kernel)
  have h2 : 57269237 ^ 1 ∣ r - 1 := pock1' (N := 97384937673999542200773646991410189597600124392557061578446940566750935936157) (a := 2) (q := 57269237) (e := 1) (f := 256) (by decide +kernel) (by decide) hr hd (by decide) pr19_237 (by decide +kernel) pr10_157_w (by decide +kernel)
  have h3 : 5543033 ^ 1 ∣ r - 1 := pock1' (N := 97384937673999542200773646991410189597600124392557061578446940566750935936157) (a := 2) (q := 5543033) (e := 1) (f := 256) (by decide +kernel) (by decide) hr hd (by decide) pr22_33 (by decide +kernel) pr10_157_w (by decide +kernel)
  have h4 : 2 ^ 2 ∣ r - 1 := pock1' (N := 97384937673999542200773646991410189597600124392557061578446940566750935936157) (a := 2) (q := 2) (e := 2) (f := 256) (by decide +kernel) (by decide) hr hd (by decide) pr9_2 (by decide +kernel) pr10_157_w (by decide +kernel)
  have g0 : 413524204558697 ∣ r - 1 := h0
  have k1 : 644279803 ∣ r - 1 := h1
  have g1 : 413524204558697 * 644279803 ∣ r - 1 := Nat.Coprime.mul_dvd_of_dvd_of_dvd (by decide +kernel) g0 k1
  replace g1 : 266425293048809005096691 ∣ r - 1 := g1
  have k2 : 57269237 ∣ r - 1 := h2
  have g2 : 266425293048809005096691 * 57269237 ∣ r - 1 := Nat.Coprime.mul_dvd_of_dvd_of_dvd (by decide +kernel) g1 k2
  replace g2 : 15257973250406695480616604794767 ∣ r - 1 := g2
  have k3 : 5543033 ∣ r - 1 := h3
  have g3 : 15257973250406695480616604794767 * 5543033 ∣ r - 1 := Nat.Coprime.mul_dvd_of_dvd_of_dvd (by decide +kernel) g2 k3
  replace g3 : 84575449240121576470008700725351708311 ∣ r - 1 := g3
  have k4 : 4 ∣ r - 1 := h4
  have g4 : 84575449240121576470008700725351708311 * 4 ∣ r - 1 := Nat.Coprime.mul_dvd_of_dvd_of_dvd (by decide +kernel) g3 k4
  exact g4
theorem pr10_157 : Pr 97384937673999542200773646991410189597600124392557061578446940566750935936157 := pock2 (F := 338301796960486305880034802901406833244) (by decide) pr10_157_F (by decide +kernel)
theorem pr30_681 : Pr 7681 := pr_td _ 89 (by decide) (by decide +kernel)
theorem pr31_131 : Pr 131 := pr_td _ 13 (by decide) (by decide +kernel)
theorem pr29_377_w : pw 68438447377 2 36 (68438447377 - 1) = 1 := by decide +kernel
theorem pr29_377_F (r : Nat) (hr : Pr r) (hd : r ∣ 68438447377) : 1006211 ∣ r - 1 := by
  have h0 : 7681 ^ 1 ∣ r - 1 := pock1' (N := 68438447377) (a := 2) (q := 7681) (e := 1) (f := 36) (by decide +kernel) (by decide) hr hd (by decide) pr30_681 (by decide +kernel) pr29_377_w (by decide +kernel)
  have h1 : 131 ^ 1 ∣ r - 1 := pock1' (N := 68438447377) (a := 2) (q := 131) (e := 1) (f := 36) (by decide +kernel) (by decide) hr hd (by decide) pr31_131 (by decide +kernel) pr29_377_w (by decide +kernel)
  have g0 : 7681 ∣ r - 1 := h0
  have k1 : 131 ∣ r - 1 := h1
  have g1 : 7681 * 131 ∣ r - 1 := Nat.Coprime.mul_dvd_of_dvd_of_dvd (by decide +kernel) g0 k1
  exact g1
theorem pr29_377 : Pr 68438447377 := pock2 (F := 1006211) (by decide) pr29_377_F (by decide +kernel)
theorem pr28_599_w : pw 80346737220599 2 47 (80346737220599 - 1) = 1 := by decide +kernel
theorem pr28_599_F (r : Nat) (hr : Pr r) (hd : r ∣ 80346737220599) : 68438447377 ∣ r - 1 := by
  have h0 : 68438447377 ^ 1 ∣ r - 1 := pock1' (N := 80346737220599) (a := 2) (q := 68438447377) (e := 1) (f := 47) (by decide +kernel) (by decide) hr hd (by decide) pr29_377 (by decide +kernel) pr28_599_w (by decide +kernel)
  have g0 : 68438447377 ∣ r - 1 := h0
  exact g0
theorem pr28_599 : Pr 80346737220599 := pock2 (F := 68438447377) (by decide) pr28_599_F (by decide +kernel)
theorem pr33_537 : Pr 83537 := pr_td _ 291 (by decide) (by decide +kernel)
theorem pr34_199 : Pr 199 := pr_td _ 16 (by decide) (by decide +kernel)
theorem pr32_631_w : pw 16790101631 2 34 (16790101631 - 1) = 1 := by decide +kernel
theorem pr32_631_F (r : Nat) (hr : Pr r) (hd : r ∣ 16790101631) : 16623863 ∣ r - 1 := by
  have h0 : 83537 ^ 1 ∣ r - 1 := pock1' (N := 16790101631) (a := 2) (q := 83537) (e := 1) (f := 34) (by decide +kernel) (by decide) hr hd (by decide) pr33_537 (by decide +kernel) pr32_631_w (by decide +kernel)
  have h1 : 199 ^ 1 ∣ r - 1 := pock1' (N := 16790101631) (a := 2) (q := 199) (e := 1) (f := 34) (by decide +kernel) (by decide) hr hd (by decide) pr34_199 (by decide +kernel) pr32_631_w (by decide +kernel)
  have g0 : 83537 ∣ r - 1 := h0
  have k1 : 199 ∣ r - 1 := h1
  have g1 : 83537 * 199 ∣ r - 1 := Nat.Coprime.mul_dvd_of_dvd_of_dvd (by decide +kernel) g0 k1
  exact g1
theorem pr32_631 : Pr 16790101631 := pock2 (F := 16623863) (by decide) pr32_631_F (by decide +kernel)
theorem pr36_789 : Pr 13789 := pr_td _ 119 (by decide) (by decide +kernel)
theorem pr37_599 : Pr 599 := pr_td _ 26 (by decide) (by decide +kernel)
theorem pr35_953_w : pw 3568151953 2 32 (3568151953 - 1) = 1 := by decide +kernel
theorem pr35_953_F (r : Nat) (hr : Pr r) (hd : r ∣ 3568151953) : 8259611 ∣ r - 1 := by
  have h0 : 13789 ^ 1 ∣ r - 1 := pock1' (N := 3568151953) (a := 2) (q := 13789) (e := 1) (f := 32) (by decide +kernel) (by decide) hr hd (by decide) pr36_789 (by decide +kernel) pr35_953_w (by decide +kernel)
  have h1 : 599 ^ 1 ∣ r - 1 := pock1' (N := 3568151953) (a := 2) (q := 599) (e := 1) (f := 32) (by decide +kernel) (by decide) hr hd (by decide) pr37_599 (by decide +kernel) pr35_953_w (by decide +kernel)
  have g0 : 13789 ∣ r - 1 := h0
  have k1 : 599 ∣ r - 1 := h1
  have g1 : 13789 * 599 ∣ r - 1 := Nat.Coprime.mul_dvd_of_dvd_of_dvd (by decide +kernel) g0 k1
  exact g1
theorem pr35_953 : Pr 3568151953 := pock2 (F := 8259611) (by decide) pr35_953_F (by decide +kernel)
theorem pr38_7 : Pr 7 := pr_td _ 4 (by decide) (by decide +kernel)
theorem pr27_291_w : pw 5188143545595090779916024275221577905901385149602899619405624014977699291 2 242 (5188143545595090779916024275221577905901385149602899619405624014977699291 - 1) = 1 := by decide +kernel
theorem pr27_291_F (r : Nat) (hr : Pr r) (hd : r ∣ 5188143545595090779916024275221577905901385149602899619405624014977699291) : 336948052980853925178790776857131990 ∣ r - 1 := by
  have h0 : 80346737220599 ^ 1 ∣ r - 1 := pock1' (N := 5188143545595090779916024275221577905901385149602899619405624014977699291) (a := 2) (q := 80346737220599) (e := 1) (f := 242) (by decide +kernel) (by decide) hr hd (by decide) pr28_599 (by decide +kernel) pr27_291_w (by decide +kernel)
  have h1 : 16790101631 ^ 1 ∣ r - 1 := pock1' (N := 5188143545595090779916024275221577905901385149602899619405624014977699291) (a := 2) (q := 16790101631) (e := 1) (f := 242) (by decide +kernel) (by decide) hr hd (by decide) pr32_631 (by decide +kernel) pr27_291_w (by decide +kernel)
  have h2 : 3568151953 ^ 1 ∣ r - 1 := pock1' (N := 5188143545595090779916024275221577905901385149602899619405624014977699291) (a := 2) (q := 3568151953) (e := 1) (f := 242) (by decide +kernel) (by decide) hr hd (by decide) pr35_953 (by decide +kernel) pr27_291_w (by decide +kernel)
  have h3 : 7 ^ 1 ∣ r - 1 := pock1' (N := 5188143545595090779916024275221577905901385149602899619405624014977699291) (a := 2) (q := 7) (e := 1) (f := 242) (by decide +kernel) (by decide) hr hd (by decide) pr38_7 (by decide +kernel) pr27_291_w (by decide +kernel)
  have h4 : 5 ^ 1 ∣ r - 1 := pock1' (N := 5188143545595090779916024275221577905901385149602899619405624014977699291) (a := 2) (q := 5) (e := 1) (f := 242) (by decide +kernel) (by decide) hr hd (by decide) pr8_5 (by decide +kernel) pr27_291_w (by decide +kernel)
  have h5 : 2 ^ 1 ∣ r - 1 := pock1' (N := 5188143545595090779916024275221577905901385149602899619405624014977699291) (a := 2) (q := 2) (e := 1) (f := 242) (by decide +kernel) (by decide) hr hd (by decide) pr9_2 (by decide +kernel) pr27_291_w (by decide +kernel)
  have g0 : 80346737220599 ∣ r - 1 := h0
  have k1 : 16790101631 ∣ r - 1 := h1
  have g1 : 80346737220599 * 16790101631 ∣ r - 1 := Nat.Coprime.mul_dvd_of_dvd_of_dvd (by decide +kernel) g0 k1
  replace g1 : 1349029883653107676696969 ∣ r - 1 := g1
  have k2 : 3568151953 ∣ r - 1 := h2
  have g2 : 1349029883653107676696969 * 3568151953 ∣ r - 1 := Nat.Coprime.mul_dvd_of_dvd_of_dvd (by decide +kernel) g1 k2
  replace g2 : 4813543614012198931125582526530457 ∣ r - 1 := g2
  have k3 : 7 ∣ r - 1 := h3
  have g3 : 4813543614012198931125582526530457 * 7 ∣ r - 1 := Nat.Coprime.mul_dvd_of_dvd_of_dvd (by decide +kernel) g2 k3
  replace g3 : 33694805298085392517879077685713199 ∣ r - 1 := g3
  have k4 : 5 ∣ r - 1 := h4
  have g4 : 33694805298085392517879077685713199 * 5 ∣ r - 1 := Nat.Coprime.mul_dvd_of_dvd_of_dvd (by decide +kernel) g3 k4
  replace g4 : 168474026490426962589395388428565995 ∣ r - 1 := g4
  have k5 : 2 ∣ r - 1 := h5
  have g5 : 168474026490426962589395388428565995 * 2 ∣ r - 1 := Nat.Coprime.mul_dvd_of_dvd_of_dvd (by decide +kernel) g4 k5
  exact g5
theorem pr27_291 : Pr 5188143545595090779916024275221577905901385149602899619405624014977699291 := pock3 (F := 336948052980853925178790776857131990) (c1 := 234795769121451873433797781031967721) (c2 := 45) (s := 234795769121451873433797781031967720) (by decide) pr27_291_F (by decide +kernel) (by decide +kernel) (by decide) (by decide +kernel) (.inr ⟨by decide +kernel, by decide +kernel⟩)
theorem pr26_101_w : pw 20816492801178981009403935404110466172865261421665524069121582985853409300383331754810949795969101 2 324 (20816492801178981009403935404110466172865261421665524069121582985853409300383331754810949795969101 - 1) = 1 := by decide +kernel
theorem pr26_101_F (r : Nat) (hr : Pr r) (hd : r ∣ 20816492801178981009403935404110466172865261421665524069121582985853409300383331754810949795969101) : 5188143545595090779916024275221577905901385149602899619405624014977699291 ∣ r - 1 := by
  have h0 : 5188143545595090779916024275221577905901385149602899619405624014977699291 ^ 1 ∣ r - 1 := pock1' (N := 20816492801178981009403935404110466172865261421665524069121582985853409300383331754810949795969101) (a := 2) (q := 5188143545595090779916024275221577905901385149602899619405624014977699291) (e := 1) (f := 324) (by decide +kernel) (by decide) hr hd (by decide) pr27_291 (by decide +kernel) pr26_101_w (by decide +kernel)
  have g0 : 5188143545595090779916024275221577905901385149602899619405624014977699291 ∣ r - 1 := h0
  exact g0
theorem pr26_101 : Pr 20816492801178981009403935404110466172865261421665524069121582985853409300383331754810949795969101 := pock2 (F := 5188143545595090779916024275221577905901385149602899619405624014977699291) (by decide) pr26_101_F (by decide +kernel)
theorem pr25_607_w : pw 124898956807073886056423612424662797037191568529993144414729497915120455802299990528865698775814607 2 326 (124898956807073886056423612424662797037191568529993144414729497915120455802299990528865698775814607 - 1) = 1 := by decide +kernel
theorem pr25_607_F (r : Nat) (hr : Pr r) (hd : r ∣ 124898956807073886056423612424662797037191568529993144414729497915120455802299990528865698775814607) : 20816492801178981009403935404110466172865261421665524069121582985853409300383331754810949795969101 ∣ r - 1 := by
  have h0 : 20816492801178981009403935404110466172865261421665524069121582985853409300383331754810949795969101 ^ 1 ∣ r - 1 := pock1' (N := 124898956807073886056423612424662797037191568529993144414729497915120455802299990528865698775814607) (a := 2) (q := 20816492801178981009403935404110466172865261421665524069121582985853409300383331754810949795969101) (e := 1) (f := 326) (by decide +kernel) (by decide) hr hd (by decide) pr26_101 (by decide +kernel) pr25_607_w (by decide +kernel)
  have g0 : 20816492801178981009403935404110466172865261421665524069121582985853409300383331754810949795969101 ∣ r - 1 := h0
  exact g0
theorem pr25_607 : Pr 124898956807073886056423612424662797037191568529993144414729497915120455802299990528865698775814607 := pock2 (F := 20816492801178981009403935404110466172865261421665524069121582985853409300383331754810949795969101) (by decide) pr25_607_F (by decide +kernel)
theorem pr24_409_w : pw 69871180818302734490186822900812004845541451332599928400407124720045268073271192314933728922697413285889256725409 2 375 (69871180818302734490186822900812004845541451332599928400407124720045268073271192314933728922697413285889256725409 - 1) = 1 := by decide +kernel
theorem pr24_409_F (r : Nat) (hr : Pr r) (hd : r ∣ 69871180818302734490186822900812004845541451332599928400407124720045268073271192314933728922697413285889256725409) : 124898956807073886056423612424662797037191568529993144414729497915120455802299990528865698775814607 ∣ r - 1 := by
  have h0 : 124898956807073886056423612424662797037191568529993144414729497915120455802299990528865698775814607 ^ 1 ∣ r - 1 := pock1' (N := 69871180818302734490186822900812004845541451332599928400407124720045268073271192314933728922697413285889256725409) (a := 2) (q := 124898956807073886056423612424662797037191568529993144414729497915120455802299990528865698775814607) (e := 1) (f := 375) (by decide +kernel) (by decide) hr hd (by decide) pr25_607 (by decide +kernel) pr24_409_w (by decide +kernel)
  have g0 : 124898956807073886056423612424662797037191568529993144414729497915120455802299990528865698775814607 ∣ r - 1 := h0
  exact g0
theorem pr24_409 : Pr 69871180818302734490186822900812004845541451332599928400407124720045268073271192314933728922697413285889256725409 := pock2 (F := 124898956807073886056423612424662797037191568529993144414729497915120455802299990528865698775814607) (by decide) pr24_409_F (by decide +kernel)
theorem pr23_43_w : pw 37590695280246871155720510720636858606901300816938761479419033099384354223419901465434346160411208347808420118270043 2 384 (37590695280246871155720510720636858606901300816938761479419033099384354223419901465434346160411208347808420118270043 - 1) = 1 := by decide +kernel
theorem pr23_43_F (r : Nat) (hr : Pr r) (hd : r ∣ 37590695280246871155720510720636858606901300816938761479419033099384354223419901465434346160411208347808420118270043) : 69871180818302734490186822900812004845541451332599928400407124720045268073271192314933728922697413285889256725409 ∣ r - 1 := by
  have h0 : 69871180818302734490186822900812004845541451332599928400407124720045268073271192314933728922697413285889256725409 ^ 1 ∣ r - 1 := pock1' (N := 37590695280246871155720510720636858606901300816938761479419033099384354223419901465434346160411208347808420118270043) (a := 2) (q := 69871180818302734490186822900812004845541451332599928400407124720045268073271192314933728922697413285889256725409) (e := 1) (f := 384) (by decide +kernel) (by decide) hr hd (by decide) pr24_409 (by decide +kernel) pr23_43_w (by decide +kernel)
  have g0 : 69871180818302734490186822900812004845541451332599928400407124720045268073271192314933728922697413285889256725409 ∣ r - 1 := h0
  exact g0
theorem pr23_43 : Pr 37590695280246871155720510720636858606901300816938761479419033099384354223419901465434346160411208347808420118270043 := pock2 (F := 69871180818302734490186822900812004845541451332599928400407124720045268073271192314933728922697413285889256725409) (by decide) pr23_43_F (by decide +kernel)
theorem pr43_77 : Pr 5514077 := pr_td _ 2350 (by decide) (by decide +kernel)
theorem pr44_43 : Pr 43 := pr_td _ 8 (by decide) (by decide +kernel)
theorem pr42_211_w : pw 12181064149044869110211 2 74 (12181064149044869110211 - 1) = 1 := by decide +kernel
theorem pr42_211_F (r : Nat) (hr : Pr r) (hd : r ∣ 12181064149044869110211) : 2371053110 ∣ r - 1 := by
  have h0 : 5514077 ^ 1 ∣ r - 1 := pock1' (N := 12181064149044869110211) (a := 2) (q := 5514077) (e := 1) (f := 74) (by decide +kernel) (by decide) hr hd (by decide) pr43_77 (by decide +kernel) pr42_211_w (by decide +kernel)
  have h1 : 43 ^ 1 ∣ r - 1 := pock1' (N := 12181064149044869110211) (a := 2) (q := 43) (e := 1) (f := 74) (by decide +kernel) (by decide) hr hd (by decide) pr44_43 (by decide +kernel) pr42_211_w (by decide +kernel)
  have h2 : 5 ^ 1 ∣ r - 1 := pock1' (N := 12181064149044869110211) (a := 2) (q := 5) (e := 1) (f := 74) (by decide +kernel) (by decide) hr hd (by decide) pr8_5 (by decide +kernel) pr42_211_w (by decide +kernel)
  have h3 : 2 ^ 1 ∣ r - 1 := pock1' (N := 12181064149044869110211) (a := 2) (q := 2) (e := 1) (f := 74) (by decide +kernel) (by decide) hr hd (by decide) pr9_2 (by decide +kernel) pr42_211_w (by decide +kernel)
  have g0 : 5514077 ∣ r - 1 := h0
  have k1 : 43 ∣ r - 1 := h1
  have g1 : 5514077 * 43 ∣ r - 1 := Nat.Coprime.mul_dvd_of_dvd_of_dvd (by decide +kernel) g0 k1
  replace g1 : 237105311 ∣ r - 1 := g1
  have k2 : 5 ∣ r - 1 := h2
  have g2 : 237105311 * 5 ∣ r - 1 := Nat.Coprime.mul_dvd_of_dvd_of_dvd (by decide +kernel) g1 k2
  replace g2 : 1185526555 ∣ r - 1 := g2
  have k3 : 2 ∣ r - 1 := h3
  have g3 : 1185526555 * 2 ∣ r - 1 := Nat.Coprime.mul_dvd_of_dvd_of_dvd (by decide +kernel) g2 k3
  exact g3
theorem pr42_211 : Pr 12181064149044869110211 := pock3 (F := 2371053110) (c1 := 1705670351) (c2 := 2166) (s := 1705670350) (by decide) pr42_211_F (by decide +kernel) (by decide +kernel) (by decide) (by decide +kernel) (.inr ⟨by decide +kernel, by decide +kernel⟩)
theorem pr41_197_w : pw 7901076725379867720170822197 2 93 (7901076725379867720170822197 - 1) = 1 := by decide +kernel
theorem pr41_197_F (r : Nat) (hr : Pr r) (hd : r ∣ 7901076725379867720170822197) : 12181064149044869110211 ∣ r - 1 := by
  have h0 : 12181064149044869110211 ^ 1 ∣ r - 1 := pock1' (N := 7901076725379867720170822197) (a := 2) (q := 12181064149044869110211) (e := 1) (f := 93) (by decide +kernel) (by decide) hr hd (by decide) pr42_211 (by decide +kernel) pr41_197_w (by decide +kernel)
  have g0 : 12181064149044869110211 ∣ r - 1 := h0
  exact g0
theorem pr41_197 : Pr 7901076725379867720170822197 := pock2 (F := 12181064149044869110211) (by decide) pr41_197_F (by decide +kernel)
theorem pr45_753 : Pr 3640753 := pr_td _ 1910 (by decide) (by decide +kernel)
theorem pr46_209 : Pr 479209 := pr_td _ 694 (by decide) (by decide +kernel)
theorem pr47_427 : Pr 6427 := pr_td _ 82 (by decide) (by decide +kernel)
theorem pr48_657 : Pr 2657 := pr_td _ 53 (by decide) (by decide +kernel)
theorem pr40_471_w : pw 33514317913355748683613923947840297765209158520386608605605183579640819174612207469977351325032187056802286300716208102258177312471 11 434 (33514317913355748683613923947840297765209158520386608605605183579640819174612207469977351325032187056802286300716208102258177312471 - 1) = 1 := by decide +kernel
theorem pr40_471_F (r : Nat) (hr : Pr r) (hd : r ∣ 33514317913355748683613923947840297765209158520386608605605183579640819174612207469977351325032187056802286300716208102258177312471) : 1720757584254736991340373789185919536043945891564210 ∣ r - 1 := by
  have h0 : 7901076725379867720170822197 ^ 1 ∣ r - 1 := pock1' (N := 33514317913355748683613923947840297765209158520386608605605183579640819174612207469977351325032187056802286300716208102258177312471) (a := 11) (q := 7901076725379867720170822197) (e := 1) (f := 434) (by decide +kernel) (by decide) hr hd (by decide) pr41_197 (by decide +kernel) pr40_471_w (by decide +kernel)
  have h1 : 3640753 ^ 1 ∣ r - 1 := pock1' (N := 33514317913355748683613923947840297765209158520386608605605183579640819174612207469977351325032187056802286300716208102258177312471) (a := 11) (q := 3640753) (e := 1) (f := 434) (by decide +kernel) (by decide) hr hd (by decide) pr45_753 (by decide +kernel) pr40_471_w (by decide +kernel)
  have h2 : 479209 ^ 1 ∣ r - 1 := pock1' (N := 33514317913355748683613923947840297765209158520386608605605183579640819174612207469977351325032187056802286300716208102258177312471) (a := 11) (q := 479209) (e := 1) (f := 434) (by decide +kernel) (by decide) hr hd (by decide) pr46_209 (by decide +kernel) pr40_471_w (by decide +kernel)
  have h3 : 6427 ^ 1 ∣ r - 1 := pock1' (N := 33514317913355748683613923947840297765209158520386608605605183579640819174612207469977351325032187056802286300716208102258177312471) (a := 11) (q := 6427) (e := 1) (f := 434) (by decide +kernel) (by decide) hr hd (by decide) pr47_427 (by decide +kernel) pr40_471_w (by decide +kernel)
  have h4 : 2657 ^ 1 ∣ r - 1 := pock1' (N := 33514317913355748683613923947840297765209158520386608605605183579640819174612207469977351325032187056802286300716208102258177312471) (a := 11) (q := 2657) (e := 1) (f := 434) (by decide +kernel) (by decide) hr hd (by decide) pr48_657 (by decide +kernel) pr40_471_w (by decide +kernel)
  have h5 : 43 ^ 1 ∣ r - 1 := pock1' (N := 33514317913355748683613923947840297765209158520386608605605183579640819174612207469977351325032187056802286300716208102258177312471) (a := 11) (q := 43) (e := 1) (f := 434) (by decide +kernel) (by decide) hr hd (by decide) pr44_43 (by decide +kernel) pr40_471_w (by decide +kernel)
  have h6 : 17 ^ 1 ∣ r - 1 := pock1' (N := 33514317913355748683613923947840297765209158520386608605605183579640819174612207469977351325032187056802286300716208102258177312471) (a := 11) (q := 17) (e := 1) (f := 434) (by decide +kernel) (by decide) hr hd (by decide) pr7_17 (by decide +kernel) pr40_471_w (by decide +kernel)
  have h7 : 5 ^ 1 ∣ r - 1 := pock1' (N := 33514317913355748683613923947840297765209158520386608605605183579640819174612207469977351325032187056802286300716208102258177312471) (a := 11) (q := 5) (e := 1) (f := 434) (by decide +kernel) (by decide) hr hd (by decide) pr8_5 (by decide +kernel) pr40_471_w (by decide +kernel)
  have h8 : 2 ^ 1 ∣ r - 1 := pock1' (N := 33514317913355748683613923947840297765209158520386608605605183579640819174612207469977351325032187056802286300716208102258177312471) (a := 11) (q := 2) (e := 1) (f := 434) (by decide +kernel) (by decide) hr hd (by decide) pr9_2 (by decide +kernel) pr40_471_w (by decide +kernel)
  have g0 : 7901076725379867720170822197 ∣ r - 1 := h0
  have k1 : 3640753 ∣ r - 1 := h1
  have g1 : 7901076725379867720170822197 * 3640753 ∣ r - 1 := Nat.Coprime.mul_dvd_of_dvd_of_dvd (by decide +kernel) g0 k1
  replace g1 : 28765868791156929541815081426194341 ∣ r - 1 := g1
  have k2 : 479209 ∣ r - 1 := h2
  have g2 : 28765868791156929541815081426194341 * 479209 ∣ r - 1 := Nat.Coprime.mul_dvd_of_dvd_of_dvd (by decide +kernel) g1 k2
  replace g2 : 13784863217541521048803663355165163956269 ∣ r - 1 := g2
  have k3 : 6427 ∣ r - 1 := h3
  have g3 : 13784863217541521048803663355165163956269 * 6427 ∣ r - 1 := Nat.Coprime.mul_dvd_of_dvd_of_dvd (by decide +kernel) g2 k3
  replace g3 : 88595315899139355780661144383646508746940863 ∣ r - 1 := g3
  have k4 : 2657 ∣ r - 1 := h4
  have g4 : 88595315899139355780661144383646508746940863 * 2657 ∣ r - 1 := Nat.Coprime.mul_dvd_of_dvd_of_dvd (by decide +kernel) g3 k4
  replace g4 : 235397754344013268309216660627348773740621872991 ∣ r - 1 := g4
  have k5 : 43 ∣ r - 1 := h5
  have g5 : 235397754344013268309216660627348773740621872991 * 43 ∣ r - 1 := Nat.Coprime.mul_dvd_of_dvd_of_dvd (by decide +kernel) g4 k5
  replace g5 : 10122103436792570537296316406975997270846740538613 ∣ r - 1 := g5
  have k6 : 17 ∣ r - 1 := h6
  have g6 : 10122103436792570537296316406975997270846740538613 * 17 ∣ r - 1 := Nat.Coprime.mul_dvd_of_dvd_of_dvd (by decide +kernel) g5 k6
  replace g6 : 172075758425473699134037378918591953604394589156421 ∣ r - 1 := g6
  have k7 : 5 ∣ r - 1 := h7
  have g7 : 172075758425473699134037378918591953604394589156421 * 5 ∣ r - 1 := Nat.Coprime.mul_dvd_of_dvd_of_dvd (by decide +kernel) g6 k7
  replace g7 : 860378792127368495670186894592959768021972945782105 ∣ r - 1 := g7
  have k8 : 2 ∣ r - 1 := h8
  have g8 : 860378792127368495670186894592959768021972945782105 * 2 ∣ r - 1 := Nat.Coprime.mul_dvd_of_dvd_of_dvd (by decide +kernel) g7 k8
  exact g8
theorem pr40_471 : Pr 33514317913355748683613923947840297765209158520386608605605183579640819174612207469977351325032187056802286300716208102258177312471 := pock3 (F := 1720757584254736991340373789185919536043945891564210) (c1 := 884592425624316429784187268962249861332558110079947) (c2 := 11318555383013745297060534316) (s := 884592425624316429784187268962249861332558110079946) (by decide) pr40_471_F (by decide +kernel) (by decide +kernel) (by decide) (by decide +kernel) (.inr ⟨by decide +kernel, by decide +kernel⟩)
theorem pr39_813_w : pw 13296718565256490367556322151028556354268719568020930811009247818981481613092301499190362027943750457012969329154695214800473725660155537062353417534985813 2 512 (13296718565256490367556322151028556354268719568020930811009247818981481613092301499190362027943750457012969329154695214800473725660155537062353417534985813 - 1) = 1 := by decide +kernel
theorem pr39_813_F (r : Nat) (hr : Pr r) (hd : r ∣ 13296718565256490367556322151028556354268719568020930811009247818981481613092301499190362027943750457012969329154695214800473725660155537062353417534985813) : 33514317913355748683613923947840297765209158520386608605605183579640819174612207469977351325032187056802286300716208102258177312471 ∣ r - 1 := by
  have h0 : 33514317913355748683613923947840297765209158520386608605605183579640819174612207469977351325032187056802286300716208102258177312471 ^ 1 ∣ r - 1 := pock1' (N := 13296718565256490367556322151028556354268719568020930811009247818981481613092301499190362027943750457012969329154695214800473725660155537062353417534985813) (a := 2) (q := 33514317913355748683613923947840297765209158520386608605605183579640819174612207469977351325032187056802286300716208102258177312471) (e := 1) (f := 512) (by decide +kernel) (by decide) hr hd (by decide) pr40_471 (by decide +kernel) pr39_813_w (by decide +kernel)
  have g0 : 33514317913355748683613923947840297765209158520386608605605183579640819174612207469977351325032187056802286300716208102258177312471 ∣ r - 1 := h0
  exact g0
theorem pr39_813 : Pr 13296718565256490367556322151028556354268719568020930811009247818981481613092301499190362027943750457012969329154695214800473725660155537062353417534985813 := pock2 (F := 33514317913355748683613923947840297765209158520386608605605183579640819174612207469977351325032187056802286300716208102258177312471) (by decide) pr39_813_F (by decide +kernel)
theorem pr54_399 : Pr 11399 := pr_td _ 108 (by decide) (by decide +kernel)
theorem pr55_29 : Pr 9029 := pr_td _ 97 (by decide) (by decide +kernel)
theorem pr53_533_w : pw 27592449812533 2 45 (27592449812533 - 1) = 1 := by decide +kernel
theorem pr53_533_F (r : Nat) (hr : Pr r) (hd : r ∣ 27592449812533) : 102921571 ∣ r - 1 := by
  have h0 : 11399 ^ 1 ∣ r - 1 := pock1' (N := 27592449812533) (a := 2) (q := 11399) (e := 1) (f := 45) (by decide +kernel) (by decide) hr hd (by decide) pr54_399 (by decide +kernel) pr53_533_w (by decide +kernel)
  have h1 : 9029 ^ 1 ∣ r - 1 := pock1' (N := 27592449812533) (a := 2) (q := 9029) (e := 1) (f := 45) (by decide +kernel) (by decide) hr hd (by decide) pr55_29 (by decide +kernel) pr53_533_w (by decide +kernel)
  have g0 : 11399 ∣ r - 1 := h0
  have k1 : 9029 ∣ r - 1 := h1
  have g1 : 11399 * 9029 ∣ r - 1 := Nat.Coprime.mul_dvd_of_dvd_of_dvd (by decide +kernel) g0 k1
  exact g1
theorem pr53_533 : Pr 27592449812533 := pock2 (F := 102921571) (by decide) pr53_533_F (by decide +kernel)
theorem pr57_973 : Pr 118973 := pr_td _ 346 (by decide) (by decide +kernel)
theorem pr58_309 : Pr 2309 := pr_td _ 50 (by decide) (by decide +kernel)
theorem pr56_899_w : pw 4426655298899 2 43 (4426655298899 - 1) = 1 := by decide +kernel
theorem pr56_899_F (r : Nat) (hr : Pr r) (hd : r ∣ 4426655298899) : 274708657 ∣ r - 1 := by
  have h0 : 118973 ^ 1 ∣ r - 1 := pock1' (N := 4426655298899) (a := 2) (q := 118973) (e := 1) (f := 43) (by decide +kernel) (by decide) hr hd (by decide) pr57_973 (by decide +kernel) pr56_899_w (by decide +kernel)
  have h1 : 2309 ^ 1 ∣ r - 1 := pock1' (N := 4426655298899) (a := 2) (q := 2309) (e := 1) (f := 43) (by decide +kernel) (by decide) hr hd (by decide) pr58_309 (by decide +kernel) pr56_899_w (by decide +kernel)
  have g0 : 118973 ∣ r - 1 := h0
  have k1 : 2309 ∣ r - 1 := h1
  have g1 : 118973 * 2309 ∣ r - 1 := Nat.Coprime.mul_dvd_of_dvd_of_dvd (by decide +kernel) g0 k1
  exact g1
theorem pr56_899 : Pr 4426655298899 := pock2 (F := 274708657) (by decide) pr56_899_F (by decide +kernel)
theorem pr59_577 : Pr 577 := pr_td _ 26 (by decide) (by decide +kernel)
theorem pr60_13 : Pr 13 := pr_td _ 5 (by decide) (by decide +kernel)
theorem pr61_3 : Pr 3 := pr_td _ 3 (by decide) (by decide +kernel)
theorem pr52_363_w : pw 210324557838458567982009485073297077916620720240161302133382616003649180119610153435363 5 287 (210324557838458567982009485073297077916620720240161302133382616003649180119610153435363 - 1) = 1 := by decide +kernel
theorem pr52_363_F (r : Nat) (hr : Pr r) (hd : r ∣ 210324557838458567982009485073297077916620720240161302133382616003649180119610153435363) : 5497134741336460086950340322002 ∣ r - 1 := by
  have h0 : 27592449812533 ^ 1 ∣ r - 1 := pock1' (N := 210324557838458567982009485073297077916620720240161302133382616003649180119610153435363) (a := 5) (q := 27592449812533) (e := 1) (f := 287) (by decide +kernel) (by decide) hr hd (by decide) pr53_533 (by decide +kernel) pr52_363_w (by decide +kernel)
  have h1 : 4426655298899 ^ 1 ∣ r - 1 := pock1' (N := 210324557838458567982009485073297077916620720240161302133382616003649180119610153435363) (a := 5) (q := 4426655298899) (e := 1) (f := 287) (by decide +kernel) (by decide) hr hd (by decide) pr56_899 (by decide +kernel) pr52_363_w (by decide +kernel)
  have h2 : 577 ^ 1 ∣ r - 1 := pock1' (N := 210324557838458567982009485073297077916620720240161302133382616003649180119610153435363) (a := 5) (q := 577) (e := 1) (f := 287) (by decide +kernel) (by decide) hr hd (by decide) pr59_577 (by decide +kernel) pr52_363_w (by decide +kernel)
  have h3 : 13 ^ 1 ∣ r - 1 := pock1' (N := 210324557838458567982009485073297077916620720240161302133382616003649180119610153435363) (a := 5) (q := 13) (e := 1) (f := 287) (by decide +kernel) (by decide) hr hd (by decide) pr60_13 (by decide +kernel) pr52_363_w (by decide +kernel)
  have h4 : 3 ^ 1 ∣ r - 1 := pock1' (N := 210324557838458567982009485073297077916620720240161302133382616003649180119610153435363) (a := 5) (q := 3) (e := 1) (f := 287) (by decide +kernel) (by decide) hr hd (by decide) pr61_3 (by decide +kernel) pr52_363_w (by decide +kernel)
  have h5 : 2 ^ 1 ∣ r - 1 := pock1' (N := 210324557838458567982009485073297077916620720240161302133382616003649180119610153435363) (a := 5) (q := 2) (e := 1) (f := 287) (by decide +kernel) (by decide) hr hd (by decide) pr9_2 (by decide +kernel) pr52_363_w (by decide +kernel)
  have g0 : 27592449812533 ∣ r - 1 := h0
  have k1 : 4426655298899 ∣ r - 1 := h1
  have g1 : 27592449812533 * 4426655298899 ∣ r - 1 := Nat.Coprime.mul_dvd_of_dvd_of_dvd (by decide +kernel) g0 k1
  replace g1 : 122142264172253923631301167 ∣ r - 1 := g1
  have k2 : 577 ∣ r - 1 := h2
  have g2 : 122142264172253923631301167 * 577 ∣ r - 1 := Nat.Coprime.mul_dvd_of_dvd_of_dvd (by decide +kernel) g1 k2
  replace g2 : 70476086427390513935260773359 ∣ r - 1 := g2
  have k3 : 13 ∣ r - 1 := h3
  have g3 : 70476086427390513935260773359 * 13 ∣ r - 1 := Nat.Coprime.mul_dvd_of_dvd_of_dvd (by decide +kernel) g2 k3
  replace g3 : 916189123556076681158390053667 ∣ r - 1 := g3
  have k4 : 3 ∣ r - 1 := h4
  have g4 : 916189123556076681158390053667 * 3 ∣ r - 1 := Nat.Coprime.mul_dvd_of_dvd_of_dvd (by decide +kernel) g3 k4
  replace g4 : 2748567370668230043475170161001 ∣ r - 1 := g4
  have k5 : 2 ∣ r - 1 := h5
  have g5 : 2748567370668230043475170161001 * 2 ∣ r - 1 := Nat.Coprime.mul_dvd_of_dvd_of_dvd (by decide +kernel) g4 k5
  exact g5
theorem pr52_363 : Pr 210324557838458567982009485073297077916620720240161302133382616003649180119610153435363 := pock3 (F := 5497134741336460086950340322002) (c1 := 620051003971144241587571451721) (c2 := 6960127898585614365532480) (s := 620051003971144241587571451720) (by decide) pr52_363_F (by decide +kernel) (by decide +kernel) (by decide) (by decide +kernel) (.inr ⟨by decide +kernel, by decide +kernel⟩)
theorem pr51_791_w : pw 14161152479263415382228698629985092256126073093770060472640651535525699297453351630802990791 2 303 (14161152479263415382228698629985092256126073093770060472640651535525699297453351630802990791 - 1) = 1 := by decide +kernel
theorem pr51_791_F (r : Nat) (hr : Pr r) (hd : r ∣ 14161152479263415382228698629985092256126073093770060472640651535525699297453351630802990791) : 210324557838458567982009485073297077916620720240161302133382616003649180119610153435363 ∣ r - 1 := by
  have h0 : 210324557838458567982009485073297077916620720240161302133382616003649180119610153435363 ^ 1 ∣ r - 1 := pock1' (N := 14161152479263415382228698629985092256126073093770060472640651535525699297453351630802990791) (a := 2) (q := 210324557838458567982009485073297077916620720240161302133382616003649180119610153435363) (e := 1) (f := 303) (by decide +kernel) (by decide) hr hd (by decide) pr52_363 (by decide +kernel) pr51_791_w (by decide +kernel)
  have g0 : 210324557838458567982009485073297077916620720240161302133382616003649180119610153435363 ∣ r - 1 := h0
  exact g0
theorem pr51_791 : Pr 14161152479263415382228698629985092256126073093770060472640651535525699297453351630802990791 := pock2 (F := 210324557838458567982009485073297077916620720240161302133382616003649180119610153435363) (by decide) pr51_791_F (by decide +kernel)
theorem pr50_297_w : pw 25813412062728437006801677438628665792695393984839657681883171023555783371925160737353134704768725053418588237297 2 374 (25813412062728437006801677438628665792695393984839657681883171023555783371925160737353134704768725053418588237297 - 1) = 1 := by decide +kernel
theorem pr50_297_F (r : Nat) (hr : Pr r) (hd : r ∣ 25813412062728437006801677438628665792695393984839657681883171023555783371925160737353134704768725053418588237297) : 14161152479263415382228698629985092256126073093770060472640651535525699297453351630802990791 ∣ r - 1 := by
  have h0 : 14161152479263415382228698629985092256126073093770060472640651535525699297453351630802990791 ^ 1 ∣ r - 1 := pock1' (N := 25813412062728437006801677438628665792695393984839657681883171023555783371925160737353134704768725053418588237297) (a := 2) (q := 14161152479263415382228698629985092256126073093770060472640651535525699297453351630802990791) (e := 1) (f := 374) (by decide +kernel) (by decide) hr hd (by decide) pr51_791 (by decide +kernel) pr50_297_w (by decide +kernel)
  have g0 : 14161152479263415382228698629985092256126073093770060472640651535525699297453351630802990791 ∣ r - 1 := h0
  exact g0
theorem pr50_297 : Pr 25813412062728437006801677438628665792695393984839657681883171023555783371925160737353134704768725053418588237297 := pock2 (F := 14161152479263415382228698629985092256126073093770060472640651535525699297453351630802990791) (by decide) pr50_297_F (by decide +kernel)
theorem pr49_133_w : pw 11893067265757354036213055555798390198132612185751396483225919590495746575497479966854070680528710877764282224625948595602460640209804849277353684779574133 2 512 (11893067265757354036213055555798390198132612185751396483225919590495746575497479966854070680528710877764282224625948595602460640209804849277353684779574133 - 1) = 1 := by decide +kernel
theorem pr49_133_F (r : Nat) (hr : Pr r) (hd : r ∣ 11893067265757354036213055555798390198132612185751396483225919590495746575497479966854070680528710877764282224625948595602460640209804849277353684779574133) : 25813412062728437006801677438628665792695393984839657681883171023555783371925160737353134704768725053418588237297 ∣ r - 1 := by
  have h0 : 25813412062728437006801677438628665792695393984839657681883171023555783371925160737353134704768725053418588237297 ^ 1 ∣ r - 1 := pock1' (N := 11893067265757354036213055555798390198132612185751396483225919590495746575497479966854070680528710877764282224625948595602460640209804849277353684779574133) (a := 2) (q := 25813412062728437006801677438628665792695393984839657681883171023555783371925160737353134704768725053418588237297) (e := 1) (f := 512) (by decide +kernel) (by decide) hr hd (by decide) pr50_297 (by decide +kernel) pr49_133_w (by decide +kernel)
  have g0 : 25813412062728437006801677438628665792695393984839657681883171023555783371925160737353134704768725053418588237297 ∣ r - 1 := h0
  exact g0
theorem pr49_133 : Pr 11893067265757354036213055555798390198132612185751396483225919590495746575497479966854070680528710877764282224625948595602460640209804849277353684779574133 := pock2 (F := 25813412062728437006801677438628665792695393984839657681883171023555783371925160737353134704768725053418588237297) (by decide) pr49_133_F (by decide +kernel)
end Go.Proofs.YtjmiaakfdclfjaaGreatDoor.Pm
