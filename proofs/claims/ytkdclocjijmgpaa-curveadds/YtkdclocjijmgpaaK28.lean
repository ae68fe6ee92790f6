/-
  Numbers that are primes.
-/
import Derived.Test.YtkdclocjijmgpaaK27
namespace Go.Proofs.Ytkdclocjijmgpaa.Pm
theorem cr1_417 : Pr 6700417 := pr_td _ 2590 (by decide) (by decide +kernel)
theorem cr2_463 : Pr 490463 := pr_td _ 702 (by decide) (by decide +kernel)
theorem cr3_537 : Pr 65537 := pr_td _ 258 (by decide) (by decide +kernel)
theorem cr4_531 : Pr 1531 := pr_td _ 41 (by decide) (by decide +kernel)
theorem cr5_641 : Pr 641 := pr_td _ 27 (by decide) (by decide +kernel)
theorem cr6_257 : Pr 257 := pr_td _ 18 (by decide) (by decide +kernel)
theorem cr7_17 : Pr 17 := pr_td _ 6 (by decide) (by decide +kernel)
theorem cr8_5 : Pr 5 := pr_td _ 4 (by decide) (by decide +kernel)
theorem cr9_3 : Pr 3 := pr_td _ 3 (by decide) (by decide +kernel)
theorem cr10_2 : Pr 2 := pr_td _ 3 (by decide) (by decide +kernel)
theorem cr0_951_w : pw 115792089210356248762697446949407573530086143415290314195533631308867097853951 6 256 (115792089210356248762697446949407573530086143415290314195533631308867097853951 - 1) = 1 := by decide +kernel
theorem cr0_951_F (r : Nat) (hr : Pr r) (hd : r ∣ 115792089210356248762697446949407573530086143415290314195533631308867097853951) : 138516389665330497628477975950 ∣ r - 1 := by
  have h0 : 6700417 ^ 1 ∣ r - 1 := pock1' (N := 115792089210356248762697446949407573530086143415290314195533631308867097853951) (a := 6) (q := 6700417) (e := 1) (f := 256) (by decide +kernel) (by decide) hr hd (by decide) cr1_417 (by decide +kernel) cr0_951_w (by decide +kernel)
  have h1 : 490463 ^ 1 ∣ r - 1 := pock1' (N := 115792089210356248762697446949407573530086143415290314195533631308867097853951) (a := 6) (q := 490463) (e := 1) (f := 256) (by decide +kernel) (by decide) hr hd (by decide) cr2_463 (by decide +kernel) cr0_951_w (by decide +kernel)
  have h2 : 65537 ^ 1 ∣ r - 1 := pock1' (N := 115792089210356248762697446949407573530086143415290314195533631308867097853951) (a := 6) (q := 65537) (e := 1) (f := 256) (by decide +kernel) (by decide) hr hd (by decide) cr3_537 (by decide +kernel) cr0_951_w (by decide +kernel)
  have h3 : 1531 ^ 1 ∣ r - 1 := pock1' (N := 115792089210356248762697446949407573530086143415290314195533631308867097853951) (a := 6) (q := 1531) (e := 1) (f := 256) (by decide +kernel) (by decide) hr hd (by decide) cr4_531 (by decide +kernel) cr0_951_w (by decide +kernel)
  have h4 : 641 ^ 1 ∣ r - 1 := pock1' (N := 115792089210356248762697446949407573530086143415290314195533631308867097853951) (a := 6) (q := 641) (e := 1) (f := 256) (by decide +kernel) (by decide) hr hd (by decide) cr5_641 (by decide +kernel) cr0_951_w (by decide +kernel)
  have h5 : 257 ^ 1 ∣ r - 1 := pock1' (N := 115792089210356248762697446949407573530086143415290314195533631308867097853951) (a := 6) (q := 257) (e := 1) (f := 256) (by decide +kernel) (by decide) hr hd (by decide) cr6_257 (by decide +kernel) cr0_951_w (by decide +kernel)
  have h6 : 17 ^ 1 ∣ r - 1 := pock1' (N := 115792089210356248762697446949407573530086143415290314195533631308867097853951) (a := 6) (q := 17) (e := 1) (f := 256) (by decide +kernel) (by decide) hr hd (by decide) cr7_17 (by decide +kernel) cr0_951_w (by decide +kernel)
  have h7 : 5 ^ 2 ∣ r - 1 := pock1' (N := 115792089210356248762697446949407573530086143415290314195533631308867097853951) (a := 6) (q := 5) (e := 2) (f := 256) (by decide +kernel) (by decide) hr hd (by decide) cr8_5 (by decide +kernel) cr0_951_w (by decide +kernel)
  have h8 : 3 ^ 1 ∣ r - 1 := pock1' (N := 115792089210356248762697446949407573530086143415290314195533631308867097853951) (a := 6) (q := 3) (e := 1) (f := 256) (by decide +kernel) (by decide) hr hd (by decide) cr9_3 (by decide +kernel) cr0_951_w (by decide +kernel)
  have h9 : 2 ^ 1 ∣ r - 1 := pock1' (N := 115792089210356248762697446949407573530086143415290314195533631308867097853951) (a := 6) (q := 2) (e := 1) (f := 256) (by decide +kernel) (by decide) hr hd (by decide) cr10_2 (by decide +kernel) cr0_951_w (by decide +kernel)
  have g0 : 6700417 ∣ r - 1 := h0
  have k1 : 490463 ∣ r - 1 := h1
  have g1 : 6700417 * 490463 ∣ r - 1 := Nat.Coprime.mul_dvd_of_dvd_of_dvd (by decide +kernel) g0 k1
  replace g1 : 3286306623071 ∣ r - 1 := g1
  have k2 : 65537 ∣ r - 1 := h2
  have g2 : 3286306623071 * 65537 ∣ r - 1 := Nat.Coprime.mul_dvd_of_dvd_of_dvd (by decide +kernel) g1 k2
  replace g2 : 215374677156204127 ∣ r - 1 := g2
  have k3 : 1531 ∣ r - 1 := h3
  have g3 : 215374677156204127 * 1531 ∣ r - 1 := Nat.Coprime.mul_dvd_of_dvd_of_dvd (by decide +kernel) g2 k3
  replace g3 : 329738630726148518437 ∣ r - 1 := g3
  have k4 : 641 ∣ r - 1 := h4
  have g4 : 329738630726148518437 * 641 ∣ r - 1 := Nat.Coprime.mul_dvd_of_dvd_of_dvd (by decide +kernel) g3 k4
  replace g4 : 211362462295461200318117 ∣ r - 1 := g4
  have k5 : 257 ∣ r - 1 := h5
  have g5 : 211362462295461200318117 * 257 ∣ r - 1 := Nat.Coprime.mul_dvd_of_dvd_of_dvd (by decide +kernel) g4 k5
  replace g5 : 54320152809933528481756069 ∣ r - 1 := g5
  have k6 : 17 ∣ r - 1 := h6
  have g6 : 54320152809933528481756069 * 17 ∣ r - 1 := Nat.Coprime.mul_dvd_of_dvd_of_dvd (by decide +kernel) g5 k6
  replace g6 : 923442597768869984189853173 ∣ r - 1 := g6
  have k7 : 25 ∣ r - 1 := h7
  have g7 : 923442597768869984189853173 * 25 ∣ r - 1 := Nat.Coprime.mul_dvd_of_dvd_of_dvd (by decide +kernel) g6 k7
  replace g7 : 23086064944221749604746329325 ∣ r - 1 := g7
  have k8 : 3 ∣ r - 1 := h8
  have g8 : 23086064944221749604746329325 * 3 ∣ r - 1 := Nat.Coprime.mul_dvd_of_dvd_of_dvd (by decide +kernel) g7 k8
  replace g8 : 69258194832665248814238987975 ∣ r - 1 := g8
  have k9 : 2 ∣ r - 1 := h9
  have g9 : 69258194832665248814238987975 * 2 ∣ r - 1 := Nat.Coprime.mul_dvd_of_dvd_of_dvd (by decide +kernel) g8 k9
  exact g9
theorem cr0_951 : Pr 115792089210356248762697446949407573530086143415290314195533631308867097853951 := pock3 (F := 138516389665330497628477975950) (c1 := 128950946036093660256175050241) (c2 := 6034990113908845660) (s := 128950946036093660256175050240) (by decide) cr0_951_F (by decide +kernel) (by decide +kernel) (by decide) (by decide +kernel) (.inr ⟨by decide +kernel, by decide +kernel⟩)
theorem cr16_661 : Pr 661 := pr_td _ 27 (by decide) (by decide +kernel)
theorem cr17_599 : Pr 599 := pr_td _ 26 (by decide) (by decide +kernel)
theorem cr15_823_w : pw 513928823 2 29 (513928823 - 1) = 1 := by decide +kernel
theorem cr15_823_F (r : Nat) (hr : Pr r) (hd : r ∣ 513928823) : 395939 ∣ r - 1 := by
  have h0 : 661 ^ 1 ∣ r - 1 := pock1' (N := 513928823) (a := 2) (q := 661) (e := 1) (f := 29) (by decide +kernel) (by decide) hr hd (by decide) cr16_661 (by decide +kernel) cr15_823_w (by decide +kernel)
  have h1 : 599 ^ 1 ∣ r - 1 := pock1' (N := 513928823) (a := 2) (q := 599) (e := 1) (f := 29) (by decide +kernel) (by decide) hr hd (by decide) cr17_599 (by decide +kernel) cr15_823_w (by decide +kernel)
  have g0 : 661 ∣ r - 1 := h0
  have k1 : 599 ∣ r - 1 := h1
  have g1 : 661 * 599 ∣ r - 1 := Nat.Coprime.mul_dvd_of_dvd_of_dvd (by decide +kernel) g0 k1
  exact g1
theorem cr15_823 : Pr 513928823 := pock2 (F := 395939) (by decide) cr15_823_F (by decide +kernel)
theorem cr14_593_w : pw 53448597593 2 36 (53448597593 - 1) = 1 := by decide +kernel
theorem cr14_593_F (r : Nat) (hr : Pr r) (hd : r ∣ 53448597593) : 513928823 ∣ r - 1 := by
  have h0 : 513928823 ^ 1 ∣ r - 1 := pock1' (N := 53448597593) (a := 2) (q := 513928823) (e := 1) (f := 36) (by decide +kernel) (by decide) hr hd (by decide) cr15_823 (by decide +kernel) cr14_593_w (by decide +kernel)
  have g0 : 513928823 ∣ r - 1 := h0
  exact g0
theorem cr14_593 : Pr 53448597593 := pock2 (F := 513928823) (by decide) cr14_593_F (by decide +kernel)
theorem cr13_621_w : pw 1357291859799823621 2 61 (1357291859799823621 - 1) = 1 := by decide +kernel
theorem cr13_621_F (r : Nat) (hr : Pr r) (hd : r ∣ 1357291859799823621) : 53448597593 ∣ r - 1 := by
  have h0 : 53448597593 ^ 1 ∣ r - 1 := pock1' (N := 1357291859799823621) (a := 2) (q := 53448597593) (e := 1) (f := 61) (by decide +kernel) (by decide) hr hd (by decide) cr14_593 (by decide +kernel) cr13_621_w (by decide +kernel)
  have g0 : 53448597593 ∣ r - 1 := h0
  exact g0
theorem cr13_621 : Pr 1357291859799823621 := pock2 (F := 53448597593) (by decide) cr13_621_F (by decide +kernel)
theorem cr18_289 : Pr 312289 := pr_td _ 560 (by decide) (by decide +kernel)
theorem cr19_557 : Pr 38557 := pr_td _ 198 (by decide) (by decide +kernel)
theorem cr20_389 : Pr 8389 := pr_td _ 93 (by decide) (by decide +kernel)
theorem cr21_11 : Pr 11 := pr_td _ 5 (by decide) (by decide +kernel)
theorem cr12_97_w : pw 19173790298027098165721053155794528970226934547887232785722672956982046098136719667167519737147526097 3 334 (19173790298027098165721053155794528970226934547887232785722672956982046098136719667167519737147526097 - 1) = 1 := by decide +kernel
theorem cr12_97_F (r : Nat) (hr : Pr r) (hd : r ∣ 19173790298027098165721053155794528970226934547887232785722672956982046098136719667167519737147526097) : 2919721308762696059271802914099725552 ∣ r - 1 := by
  have h0 : 1357291859799823621 ^ 1 ∣ r - 1 := pock1' (N := 19173790298027098165721053155794528970226934547887232785722672956982046098136719667167519737147526097) (a := 3) (q := 1357291859799823621) (e := 1) (f := 334) (by decide +kernel) (by decide) hr hd (by decide) cr13_621 (by decide +kernel) cr12_97_w (by decide +kernel)
  have h1 : 312289 ^ 1 ∣ r - 1 := pock1' (N := 19173790298027098165721053155794528970226934547887232785722672956982046098136719667167519737147526097) (a := 3) (q := 312289) (e := 1) (f := 334) (by decide +kernel) (by decide) hr hd (by decide) cr18_289 (by decide +kernel) cr12_97_w (by decide +kernel)
  have h2 : 38557 ^ 1 ∣ r - 1 := pock1' (N := 19173790298027098165721053155794528970226934547887232785722672956982046098136719667167519737147526097) (a := 3) (q := 38557) (e := 1) (f := 334) (by decide +kernel) (by decide) hr hd (by decide) cr19_557 (by decide +kernel) cr12_97_w (by decide +kernel)
  have h3 : 8389 ^ 1 ∣ r - 1 := pock1' (N := 19173790298027098165721053155794528970226934547887232785722672956982046098136719667167519737147526097) (a := 3) (q := 8389) (e := 1) (f := 334) (by decide +kernel) (by decide) hr hd (by decide) cr20_389 (by decide +kernel) cr12_97_w (by decide +kernel)
  have h4 : 11 ^ 3 ∣ r - 1 := pock1' (N := 19173790298027098165721053155794528970226934547887232785722672956982046098136719667167519737147526097) (a := 3) (q := 11) (e := 3) (f := 334) (by decide +kernel) (by decide) hr hd (by decide) cr21_11 (by decide +kernel) cr12_97_w (by decide +kernel)
  have h5 : 2 ^ 4 ∣ r - 1 := pock1' (N := 19173790298027098165721053155794528970226934547887232785722672956982046098136719667167519737147526097) (a := 3) (q := 2) (e := 4) (f := 334) (by decide +kernel) (by decide) hr hd (by decide) cr10_2 (by decide +kernel) cr12_97_w (by decide +kernel)
  have g0 : 1357291859799823621 ∣ r - 1 := h0
  have k1 : 312289 ∣ r - 1 := h1
  have g1 : 1357291859799823621 * 312289 ∣ r - 1 := Nat.Coprime.mul_dvd_of_dvd_of_dvd (by decide +kernel) g0 k1
  replace g1 : 423867317605027118778469 ∣ r - 1 := g1
  have k2 : 38557 ∣ r - 1 := h2
  have g2 : 423867317605027118778469 * 38557 ∣ r - 1 := Nat.Coprime.mul_dvd_of_dvd_of_dvd (by decide +kernel) g1 k2
  replace g2 : 16343052164897030618741429233 ∣ r - 1 := g2
  have k3 : 8389 ∣ r - 1 := h3
  have g3 : 16343052164897030618741429233 * 8389 ∣ r - 1 := Nat.Coprime.mul_dvd_of_dvd_of_dvd (by decide +kernel) g2 k3
  replace g3 : 137101864611321189860621849835637 ∣ r - 1 := g3
  have k4 : 1331 ∣ r - 1 := h4
  have g4 : 137101864611321189860621849835637 * 1331 ∣ r - 1 := Nat.Coprime.mul_dvd_of_dvd_of_dvd (by decide +kernel) g3 k4
  replace g4 : 182482581797668503704487682131232847 ∣ r - 1 := g4
  have k5 : 16 ∣ r - 1 := h5
  have g5 : 182482581797668503704487682131232847 * 16 ∣ r - 1 := Nat.Coprime.mul_dvd_of_dvd_of_dvd (by decide +kernel) g4 k5
  exact g5
theorem cr12_97 : Pr 19173790298027098165721053155794528970226934547887232785722672956982046098136719667167519737147526097 := pock3 (F := 2919721308762696059271802914099725552) (c1 := 1685075156491733192729263119441357571) (c2 := 2249184978384754134466564301) (s := 1685075156491733192729263119441357570) (by decide) cr12_97_F (by decide +kernel) (by decide +kernel) (by decide) (by decide +kernel) (.inr ⟨by decide +kernel, by decide +kernel⟩)
theorem cr11_319_w : pw 39402006196394479212279040100143613805079739270465446667948293404245721771496870329047266088258938001861606973112319 2 384 (39402006196394479212279040100143613805079739270465446667948293404245721771496870329047266088258938001861606973112319 - 1) = 1 := by decide +kernel
theorem cr11_319_F (r : Nat) (hr : Pr r) (hd : r ∣ 39402006196394479212279040100143613805079739270465446667948293404245721771496870329047266088258938001861606973112319) : 19173790298027098165721053155794528970226934547887232785722672956982046098136719667167519737147526097 ∣ r - 1 := by
  have h0 : 19173790298027098165721053155794528970226934547887232785722672956982046098136719667167519737147526097 ^ 1 ∣ r - 1 := pock1' (N := 39402006196394479212279040100143613805079739270465446667948293404245721771496870329047266088258938001861606973112319) (a := 2) (q := 19173790298027098165721053155794528970226934547887232785722672956982046098136719667167519737147526097) (e := 1) (f := 384) (by decide +kernel) (by decide) hr hd (by decide) cr12_97 (by decide +kernel) cr11_319_w (by decide +kernel)
  have g0 : 19173790298027098165721053155794528970226934547887232785722672956982046098136719667167519737147526097 ∣ r - 1 := h0
  exact g0
theorem cr11_319 : Pr 39402006196394479212279040100143613805079739270465446667948293404245721771496870329047266088258938001861606973112319 := pock2 (F := 19173790298027098165721053155794528970226934547887232785722672956982046098136719667167519737147526097) (by decide) cr11_319_F (by decide +kernel)
theorem cr24_987 : Pr 9350987 := pr_td _ 3059 (by decide) (by decide +kernel)
theorem cr23_741_w : pw 187019741 2 28 (187019741 - 1) = 1 := by decide +kernel
theorem cr23_741_F (r : Nat) (hr : Pr r) (hd : r ∣ 187019741) : 9350987 ∣ r - 1 := by
  have h0 : 9350987 ^ 1 ∣ r - 1 := pock1' (N := 187019741) (a := 2) (q := 9350987) (e := 1) (f := 28) (by decide +kernel) (by decide) hr hd (by decide) cr24_987 (by decide +kernel) cr23_741_w (by decide +kernel)
  have g0 : 9350987 ∣ r - 1 := h0
  exact g0
theorem cr23_741 : Pr 187019741 := pock2 (F := 9350987) (by decide) cr23_741_F (by decide +kernel)
theorem cr25_189 : Pr 38189 := pr_td _ 197 (by decide) (by decide +kernel)
theorem cr26_449 : Pr 17449 := pr_td _ 134 (by decide) (by decide +kernel)
theorem cr27_407 : Pr 3407 := pr_td _ 60 (by decide) (by decide +kernel)
theorem cr28_373 : Pr 373 := pr_td _ 21 (by decide) (by decide +kernel)
theorem cr29_131 : Pr 131 := pr_td _ 13 (by decide) (by decide +kernel)
theorem cr30_71 : Pr 71 := pr_td _ 10 (by decide) (by decide +kernel)
theorem cr22_369_w : pw 115792089210356248762697446949407573529996955224135760342422259061068512044369 7 256 (115792089210356248762697446949407573529996955224135760342422259061068512044369 - 1) = 1 := by decide +kernel
theorem cr22_369_F (r : Nat) (hr : Pr r) (hd : r ∣ 115792089210356248762697446949407573529996955224135760342422259061068512044369) : 70704674500239818223196277328 ∣ r - 1 := by
  have h0 : 187019741 ^ 1 ∣ r - 1 := pock1' (N := 115792089210356248762697446949407573529996955224135760342422259061068512044369) (a := 7) (q := 187019741) (e := 1) (f := 256) (by decide +kernel) (by decide) hr hd (by decide) cr23_741 (by decide +kernel) cr22_369_w (by decide +kernel)
  have h1 : 38189 ^ 1 ∣ r - 1 := pock1' (N := 115792089210356248762697446949407573529996955224135760342422259061068512044369) (a := 7) (q := 38189) (e := 1) (f := 256) (by decide +kernel) (by decide) hr hd (by decide) cr25_189 (by decide +kernel) cr22_369_w (by decide +kernel)
  have h2 : 17449 ^ 1 ∣ r - 1 := pock1' (N := 115792089210356248762697446949407573529996955224135760342422259061068512044369) (a := 7) (q := 17449) (e := 1) (f := 256) (by decide +kernel) (by decide) hr hd (by decide) cr26_449 (by decide +kernel) cr22_369_w (by decide +kernel)
  have h3 : 3407 ^ 1 ∣ r - 1 := pock1' (N := 115792089210356248762697446949407573529996955224135760342422259061068512044369) (a := 7) (q := 3407) (e := 1) (f := 256) (by decide +kernel) (by decide) hr hd (by decide) cr27_407 (by decide +kernel) cr22_369_w (by decide +kernel)
  have h4 : 373 ^ 1 ∣ r - 1 := pock1' (N := 115792089210356248762697446949407573529996955224135760342422259061068512044369) (a := 7) (q := 373) (e := 1) (f := 256) (by decide +kernel) (by decide) hr hd (by decide) cr28_373 (by decide +kernel) cr22_369_w (by decide +kernel)
  have h5 : 131 ^ 1 ∣ r - 1 := pock1' (N := 115792089210356248762697446949407573529996955224135760342422259061068512044369) (a := 7) (q := 131) (e := 1) (f := 256) (by decide +kernel) (by decide) hr hd (by decide) cr29_131 (by decide +kernel) cr22_369_w (by decide +kernel)
  have h6 : 71 ^ 1 ∣ r - 1 := pock1' (N := 115792089210356248762697446949407573529996955224135760342422259061068512044369) (a := 7) (q := 71) (e := 1) (f := 256) (by decide +kernel) (by decide) hr hd (by decide) cr30_71 (by decide +kernel) cr22_369_w (by decide +kernel)
  have h7 : 3 ^ 1 ∣ r - 1 := pock1' (N := 115792089210356248762697446949407573529996955224135760342422259061068512044369) (a := 7) (q := 3) (e := 1) (f := 256) (by decide +kernel) (by decide) hr hd (by decide) cr9_3 (by decide +kernel) cr22_369_w (by decide +kernel)
  have h8 : 2 ^ 4 ∣ r - 1 := pock1' (N := 115792089210356248762697446949407573529996955224135760342422259061068512044369) (a := 7) (q := 2) (e := 4) (f := 256) (by decide +kernel) (by decide) hr hd (by decide) cr10_2 (by decide +kernel) cr22_369_w (by decide +kernel)
  have g0 : 187019741 ∣ r - 1 := h0
  have k1 : 38189 ∣ r - 1 := h1
  have g1 : 187019741 * 38189 ∣ r - 1 := Nat.Coprime.mul_dvd_of_dvd_of_dvd (by decide +kernel) g0 k1
  replace g1 : 7142096889049 ∣ r - 1 := g1
  have k2 : 17449 ∣ r - 1 := h2
  have g2 : 7142096889049 * 17449 ∣ r - 1 := Nat.Coprime.mul_dvd_of_dvd_of_dvd (by decide +kernel) g1 k2
  replace g2 : 124622448617016001 ∣ r - 1 := g2
  have k3 : 3407 ∣ r - 1 := h3
  have g3 : 124622448617016001 * 3407 ∣ r - 1 := Nat.Coprime.mul_dvd_of_dvd_of_dvd (by decide +kernel) g2 k3
  replace g3 : 424588682438173515407 ∣ r - 1 := g3
  have k4 : 373 ∣ r - 1 := h4
  have g4 : 424588682438173515407 * 373 ∣ r - 1 := Nat.Coprime.mul_dvd_of_dvd_of_dvd (by decide +kernel) g3 k4
  replace g4 : 158371578549438721246811 ∣ r - 1 := g4
  have k5 : 131 ∣ r - 1 := h5
  have g5 : 158371578549438721246811 * 131 ∣ r - 1 := Nat.Coprime.mul_dvd_of_dvd_of_dvd (by decide +kernel) g4 k5
  replace g5 : 20746676789976472483332241 ∣ r - 1 := g5
  have k6 : 71 ∣ r - 1 := h6
  have g6 : 20746676789976472483332241 * 71 ∣ r - 1 := Nat.Coprime.mul_dvd_of_dvd_of_dvd (by decide +kernel) g5 k6
  replace g6 : 1473014052088329546316589111 ∣ r - 1 := g6
  have k7 : 3 ∣ r - 1 := h7
  have g7 : 1473014052088329546316589111 * 3 ∣ r - 1 := Nat.Coprime.mul_dvd_of_dvd_of_dvd (by decide +kernel) g6 k7
  replace g7 : 4419042156264988638949767333 ∣ r - 1 := g7
  have k8 : 16 ∣ r - 1 := h8
  have g8 : 4419042156264988638949767333 * 16 ∣ r - 1 := Nat.Coprime.mul_dvd_of_dvd_of_dvd (by decide +kernel) g7 k8
  exact g8
theorem cr22_369 : Pr 115792089210356248762697446949407573529996955224135760342422259061068512044369 := pock3 (F := 70704674500239818223196277328) (c1 := 64372241585573992917195503041) (c2 := 23162350826915169255) (s := 64372241585573992917195503040) (by decide) cr22_369_F (by decide +kernel) (by decide +kernel) (by decide) (by decide +kernel) (.inr ⟨by decide +kernel, by decide +kernel⟩)
theorem cr36_677 : Pr 9863677 := pr_td _ 3142 (by decide) (by decide +kernel)
theorem cr35_931_w : pw 37344768852931 2 46 (37344768852931 - 1) = 1 := by decide +kernel
theorem cr35_931_F (r : Nat) (hr : Pr r) (hd : r ∣ 37344768852931) : 9863677 ∣ r - 1 := by
  have h0 : 9863677 ^ 1 ∣ r - 1 := pock1' (N := 37344768852931) (a := 2) (q := 9863677) (e := 1) (f := 46) (by decide +kernel) (by decide) hr hd (by decide) cr36_677 (by decide +kernel) cr35_931_w (by decide +kernel)
  have g0 : 9863677 ∣ r - 1 := h0
  exact g0
theorem cr35_931 : Pr 37344768852931 := pock2 (F := 9863677) (by decide) cr35_931_F (by decide +kernel)
theorem cr34_639_w : pw 55942463741690639 2 56 (55942463741690639 - 1) = 1 := by decide +kernel
theorem cr34_639_F (r : Nat) (hr : Pr r) (hd : r ∣ 55942463741690639) : 37344768852931 ∣ r - 1 := by
  have h0 : 37344768852931 ^ 1 ∣ r - 1 := pock1' (N := 55942463741690639) (a := 2) (q := 37344768852931) (e := 1) (f := 56) (by decide +kernel) (by decide) hr hd (by decide) cr35_931 (by decide +kernel) cr34_639_w (by decide +kernel)
  have g0 : 37344768852931 ∣ r - 1 := h0
  exact g0
theorem cr34_639 : Pr 55942463741690639 := pock2 (F := 37344768852931) (by decide) cr34_639_F (by decide +kernel)
theorem cr37_23 : Pr 8463023 := pr_td _ 2911 (by decide) (by decide +kernel)
theorem cr38_431 : Pr 248431 := pr_td _ 500 (by decide) (by decide +kernel)
theorem cr39_251 : Pr 251 := pr_td _ 17 (by decide) (by decide +kernel)
theorem cr33_307_w : pw 1059392654943455286185473617842338478315215895509773412096307 2 200 (1059392654943455286185473617842338478315215895509773412096307 - 1) = 1 := by decide +kernel
theorem cr33_307_F (r : Nat) (hr : Pr r) (hd : r ∣ 1059392654943455286185473617842338478315215895509773412096307) : 29522057326274342908967808379157 ∣ r - 1 := by
  have h0 : 55942463741690639 ^ 1 ∣ r - 1 := pock1' (N := 1059392654943455286185473617842338478315215895509773412096307) (a := 2) (q := 55942463741690639) (e := 1) (f := 200) (by decide +kernel) (by decide) hr hd (by decide) cr34_639 (by decide +kernel) cr33_307_w (by decide +kernel)
  have h1 : 8463023 ^ 1 ∣ r - 1 := pock1' (N := 1059392654943455286185473617842338478315215895509773412096307) (a := 2) (q := 8463023) (e := 1) (f := 200) (by decide +kernel) (by decide) hr hd (by decide) cr37_23 (by decide +kernel) cr33_307_w (by decide +kernel)
  have h2 : 248431 ^ 1 ∣ r - 1 := pock1' (N := 1059392654943455286185473617842338478315215895509773412096307) (a := 2) (q := 248431) (e := 1) (f := 200) (by decide +kernel) (by decide) hr hd (by decide) cr38_431 (by decide +kernel) cr33_307_w (by decide +kernel)
  have h3 : 251 ^ 1 ∣ r - 1 := pock1' (N := 1059392654943455286185473617842338478315215895509773412096307) (a := 2) (q := 251) (e := 1) (f := 200) (by decide +kernel) (by decide) hr hd (by decide) cr39_251 (by decide +kernel) cr33_307_w (by decide +kernel)
  have g0 : 55942463741690639 ∣ r - 1 := h0
  have k1 : 8463023 ∣ r - 1 := h1
  have g1 : 55942463741690639 * 8463023 ∣ r - 1 := Nat.Coprime.mul_dvd_of_dvd_of_dvd (by decide +kernel) g0 k1
  replace g1 : 473442357322593936741697 ∣ r - 1 := g1
  have k2 : 248431 ∣ r - 1 := h2
  have g2 : 473442357322593936741697 * 248431 ∣ r - 1 := Nat.Coprime.mul_dvd_of_dvd_of_dvd (by decide +kernel) g1 k2
  replace g2 : 117617758272009334298676527407 ∣ r - 1 := g2
  have k3 : 251 ∣ r - 1 := h3
  have g3 : 117617758272009334298676527407 * 251 ∣ r - 1 := Nat.Coprime.mul_dvd_of_dvd_of_dvd (by decide +kernel) g2 k3
  exact g3
theorem cr33_307 : Pr 1059392654943455286185473617842338478315215895509773412096307 := pock2 (F := 29522057326274342908967808379157) (by decide) cr33_307_F (by decide +kernel)
theorem cr32_471_w : pw 3055465788140352002733946906144561090641249606160407884365391979704929268480326390471 2 281 (3055465788140352002733946906144561090641249606160407884365391979704929268480326390471 - 1) = 1 := by decide +kernel
theorem cr32_471_F (r : Nat) (hr : Pr r) (hd : r ∣ 3055465788140352002733946906144561090641249606160407884365391979704929268480326390471) : 1059392654943455286185473617842338478315215895509773412096307 ∣ r - 1 := by
  have h0 : 1059392654943455286185473617842338478315215895509773412096307 ^ 1 ∣ r - 1 := pock1' (N := 3055465788140352002733946906144561090641249606160407884365391979704929268480326390471) (a := 2) (q := 1059392654943455286185473617842338478315215895509773412096307) (e := 1) (f := 281) (by decide +kernel) (by decide) hr hd (by decide) cr33_307 (by decide +kernel) cr32_471_w (by decide +kernel)
  have g0 : 1059392654943455286185473617842338478315215895509773412096307 ∣ r - 1 := h0
  exact g0
theorem cr32_471 : Pr 3055465788140352002733946906144561090641249606160407884365391979704929268480326390471 := pock2 (F := 1059392654943455286185473617842338478315215895509773412096307) (by decide) cr32_471_F (by decide +kernel)
theorem cr31_643_w : pw 39402006196394479212279040100143613805079739270465446667946905279627659399113263569398956308152294913554433653942643 2 384 (39402006196394479212279040100143613805079739270465446667946905279627659399113263569398956308152294913554433653942643 - 1) = 1 := by decide +kernel
theorem cr31_643_F (r : Nat) (hr : Pr r) (hd : r ∣ 39402006196394479212279040100143613805079739270465446667946905279627659399113263569398956308152294913554433653942643) : 3055465788140352002733946906144561090641249606160407884365391979704929268480326390471 ∣ r - 1 := by
  have h0 : 3055465788140352002733946906144561090641249606160407884365391979704929268480326390471 ^ 1 ∣ r - 1 := pock1' (N := 39402006196394479212279040100143613805079739270465446667946905279627659399113263569398956308152294913554433653942643) (a := 2) (q := 3055465788140352002733946906144561090641249606160407884365391979704929268480326390471) (e := 1) (f := 384) (by decide +kernel) (by decide) hr hd (by decide) cr32_471 (by decide +kernel) cr31_643_w (by decide +kernel)
  have g0 : 3055465788140352002733946906144561090641249606160407884365391979704929268480326390471 ∣ r - 1 := h0
  exact g0
theorem cr31_643 : Pr 39402006196394479212279040100143613805079739270465446667946905279627659399113263569398956308152294913554433653942643 := pock2 (F := 3055465788140352002733946906144561090641249606160407884365391979704929268480326390471) (by decide) cr31_643_F (by decide +kernel)
end Go.Proofs.Ytkdclocjijmgpaa.Pm
/-
  Curves: both curves are good, and what follows (pure).
-/
namespace Go.Proofs.Ytkdclocjijmgpaa.Gl
open Pm
/-- The curve of given numbers, its base. -/
def ec (C : Cv) [NeZero C.p] : Ec C.p := ⟨F C.p (C.p - 3), F C.p C.b⟩
def gen (C : Cv) [NeZero C.p] : Pt C.p := some (F C.p C.gx, F C.p C.gy)
/-- What is known of both curves. -/
structure Cok (C : Cv) [NeZero C.p] : Prop where
  ok : (ec C).Ok
  a3 : (ec C).a + 3 = 0
  b0 : (ec C).b ≠ 0
  p3 : 3 < C.p
  bp : C.b < C.p
  np : 2 * C.p + 1 < 3 * C.n
  gl : C.gx < C.p ∧ C.gy < C.p
  onG : (ec C).On (gen C)
  prp : Pr C.p
  prn : Pr C.n
  ordG : (ec C).mul C.n (gen C) = none
  hno : ∀ x : Fin C.p, x * x * x + (ec C).a * x + (ec C).b ≠ 0
theorem cok_of (C : Cv) [NeZero C.p] (hp : Pr C.p) (hn : Pr C.n) (h3 : 3 < C.p) (hb : C.b < C.p) (np : 2 * C.p + 1 < 3 * C.n) (gl : C.gx < C.p ∧ C.gy < C.p) {f : Nat} {R A : T3} (hf : C.p < 2 ^ f) (hR : pw3 C.p (C.p - C.b) f C.p = R) (hA : m3 C.p (C.p - C.b) A (R.1, R.2.1 + (C.p - 1), R.2.2) = (1, 0, 0))
    (hon : C.gy * C.gy % C.p = (C.gx * C.gx * C.gx + (C.p - 3) * C.gx + C.b) % C.p) (hfn : C.n < 2 ^ f) (hG : (nm C.p (C.gx, C.gy, 1) f C.n).2.2 = 0) : Cok C := by
  have hx : ∀ x : Fin C.p, x * x * x + (ec C).a * x + (ec C).b ≠ 0 := by
    intro x h
    refine no_root hp hf hR hA x ?_
    have e1 : F C.p (C.p - C.b) + F C.p C.b = 0 := by rw [← F_add, show C.p - C.b + C.b = C.p by omega, F_p]
    have e2 : F C.p (C.p - 3) + F C.p 3 = 0 := by rw [← F_add, show C.p - 3 + 3 = C.p by omega, F_p]
    rw [F3] at e2
    change x * x * x + F C.p (C.p - 3) * x + F C.p C.b = 0 at h
    generalize F C.p (C.p - 3) = a at *
    generalize F C.p (C.p - C.b) = nb at *
    generalize F C.p C.b = b at *
    grobner
  have a3 : (ec C).a + 3 = 0 := by
    show F C.p (C.p - 3) + 3 = 0
    rw [← F3, ← F_add, show C.p - 3 + 3 = C.p by omega, F_p]
  have b0 : (ec C).b ≠ 0 := fun h => hx 0 (by rw [h]; grobner)
  have ok : (ec C).Ok := ⟨Fd.of hp (by omega), fun x h => by
    unfold Ec.on at h
    exact absurd (by rw [← h]; grobner) (hx x)⟩
  have onG : (ec C).On (gen C) := by
    show F C.p C.gy * F C.p C.gy = F C.p C.gx * F C.p C.gx * F C.p C.gx + F C.p (C.p - 3) * F C.p C.gx + F C.p C.b
    simp only [← F_mul, ← F_add]
    rw [← F_mod, hon, F_mod]
  refine ⟨ok, a3, b0, h3, hb, np, gl, onG, hp, hn, ?_, hx⟩
  have hr : Rp (C.gx, C.gy, 1) (gen C) := by
    refine ⟨Nat.one_ne_zero, ?_, ?_⟩
    · show F C.p C.gx = F C.p C.gx * (F C.p 1 * F C.p 1)
      rw [F_1]; grobner
    · show F C.p C.gy = F C.p C.gy * (F C.p 1 * F C.p 1 * F C.p 1)
      rw [F_1]; grobner
  have h := nm_rp ok a3 (g := (C.gx, C.gy, 1)) ⟨gl.1, gl.2, by show 1 < C.p; omega⟩ onG hr f C.n hfn
  cases hm : (ec C).mul C.n (gen C) with
  | none => rfl
  | some P => rw [hm] at h; exact absurd hG h.1
theorem cok256 [NeZero c256.p] : Cok c256 := cok_of c256 cr0_951 cr22_369 (by decide) (by decide) (by decide) ⟨by decide, by decide⟩ (f := 256) (by decide +kernel) cub256 inv256 (by decide +kernel) (by decide +kernel) test256
theorem cok384 [NeZero c384.p] : Cok c384 := cok_of c384 cr11_319 cr31_643 (by decide) (by decide) (by decide) ⟨by decide, by decide⟩ (f := 384) (by decide +kernel) cub384 inv384 (by decide +kernel) (by decide +kernel) test384
theorem crv_cok {c : Int} {C : Cv} (h : crv c = some C) : ∃ _ : NeZero C.p, Cok C := by
  unfold crv at h
  split at h
  · cases h
    exact ⟨⟨by decide⟩, @cok256 ⟨by decide⟩⟩
  · split at h
    · cases h
      exact ⟨⟨by decide⟩, @cok384 ⟨by decide⟩⟩
    · cases h
variable {C : Cv} [NeZero C.p]
theorem Cok.ord (g : Cok C) {A : Pt C.p} (hA : (ec C).On A) : (ec C).mul C.n A = none :=
  order_mul g.ok g.hno g.prn.2 g.np g.onG (by unfold gen; simp) g.ordG hA
/-- Below the order no multiple of a point is far. -/
theorem Cok.ne (g : Cok C) {A : Pt C.p} (hA : (ec C).On A) (h0 : A ≠ none) {k : Nat} (hk : 0 < k) (hn : k < C.n) : (ec C).mul k A ≠ none := by
  intro h
  have hg := mul_gcd g.ok hA k C.n h (g.ord hA)
  rcases g.prn.2 _ (Nat.gcd_dvd_right k C.n) with e | e
  · rw [e] at hg; exact h0 hg
  · have := Nat.le_of_dvd hk (Nat.gcd_dvd_left k C.n)
    rw [e] at this
    omega
end Go.Proofs.Ytkdclocjijmgpaa.Gl
