/-
  Texts of one's own, joined.
-/
import Derived.Test.YtbkfdafdchjakabJoined18
import Derived.Test.YtbkfdafdchjakabJoined19
import Derived.Test.YtbkfdafdchjakabJoined2
import Derived.Test.YtbkfdafdchjakabJoined12
import Derived.Test.YtbkfdafdchjakabJoined17
import Derived.Test.YtbkfdafdchjakabJoined15

/-
  The pairs of the base point with points 757 to 1008 of its group.
-/
namespace Go.Proofs.Ytbkfdafdchjakab

def tab4 : List (Int × Int × Int × Int) := [
  (9765, 3066, 8397, 7613), (9087, 3956, 2050, 11476), (9288, 8030, 3428, 7203), (5647, 7848, 5912, 8369), (2922, 3627, 259, 8442), (1089, 4602, 5179, 1053), (4746, 9272, 2891, 142), (2790, 10454, 2786, 7739), (1219, 1867, 11703, 6849), (3812, 9325, 11420, 2977), (1414, 1630, 9877, 4565), (8337, 11522, 226, 3423),
  (3791, 6661, 876, 11784), (11791, 5227, 9847, 10512), (1077, 857, 557, 129), (5645, 338, 5030, 715), (9608, 1039, 700, 11230), (5602, 1205, 7276, 575), (7476, 6352, 815, 4932), (7708, 11793, 5841, 412), (6644, 10369, 10583, 11028), (8899, 10190, 10468, 7981), (10111, 3781, 4915, 6513), (5413, 1770, 2085, 6998),
  (3267, 3471, 8736, 6096), (11866, 8924, 8147, 408), (4861, 2487, 11239, 6888), (9188, 9383, 11946, 3003), (11805, 9038, 2154, 11763), (2436, 11055, 4613, 7415), (6685, 4772, 3637, 8419), (10613, 8969, 1454, 9109), (9379, 7151, 616, 864), (4495, 8329, 8891, 4143), (3323, 7140, 3866, 6350), (7523, 237, 10161, 10634),
  (9758, 8839, 1150, 11582), (4261, 10416, 10056, 10404), (7802, 2849, 10495, 4728), (7747, 2460, 1316, 8305), (721, 10738, 49, 11729), (7062, 4073, 10926, 1031), (6910, 11340, 5098, 4701), (8571, 1634, 4602, 9697), (5324, 1138, 4616, 6202), (10292, 241, 3421, 3931), (7734, 4855, 10245, 675), (5987, 1418, 3556, 1882),
  (10559, 5296, 8200, 7228), (2578, 7658, 7423, 242), (8823, 5842, 5827, 3322), (11870, 9241, 5666, 1498), (4413, 9514, 8548, 9453), (9279, 661, 9978, 9474), (9073, 74, 5600, 5036), (10481, 1686, 3721, 8354), (4128, 1174, 2428, 11556), (9297, 9333, 10875, 5447), (7430, 227, 1096, 9381), (314, 4013, 5487, 385),
  (6791, 7822, 1173, 10705), (11795, 6817, 7628, 9836), (6434, 2414, 7983, 6758), (1866, 9466, 11401, 5818), (2875, 11138, 11568, 11742), (3149, 7326, 11328, 1083), (3621, 5778, 2099, 7055), (6411, 6870, 632, 5506), (9832, 2734, 8043, 9350), (3763, 6736, 2502, 1476), (2452, 8698, 1074, 11271), (1584, 10415, 9599, 6104),
  (5738, 3892, 9559, 2087), (9381, 9895, 7595, 9035), (8505, 2287, 11366, 568), (8799, 10087, 10130, 1919), (2036, 2252, 6907, 10649), (1198, 3932, 7417, 2959), (455, 6759, 2656, 11587), (9839, 9959, 7313, 9692), (11227, 9832, 2173, 7703), (6760, 10490, 11275, 6836), (4145, 12034, 8383, 5448), (3281, 4585, 2679, 2738),
  (9154, 9401, 11352, 9755), (12064, 279, 4630, 2889), (458, 2123, 7087, 8829), (5273, 11798, 1553, 3893), (8548, 6523, 10287, 6097), (9017, 10590, 351, 4257), (4835, 6497, 8717, 1184), (907, 3909, 7852, 4935), (293, 359, 9704, 2035), (5655, 1926, 8259, 7837), (7540, 4805, 8850, 5226), (7998, 6503, 2040, 6067),
  (4320, 1823, 7642, 4818), (11881, 8391, 5425, 6960), (6252, 8247, 9034, 3733), (8758, 4728, 8593, 9996), (11236, 11058, 3769, 11700), (2024, 9626, 10933, 1978), (990, 11549, 6586, 7092), (11850, 4730, 9930, 7925), (4571, 818, 8171, 5106), (8433, 9198, 3687, 1448), (9076, 6826, 10882, 6790), (4803, 10365, 5045, 1693),
  (4548, 498, 1535, 5781), (2843, 2310, 11044, 1386), (4370, 8751, 6655, 8415), (7667, 5561, 620, 55), (376, 10816, 6666, 8291), (9027, 4434, 7121, 5986), (482, 11588, 599, 2024), (8049, 8148, 2683, 10709), (133, 7450, 10005, 11173), (4841, 7324, 7339, 8708), (537, 9129, 2061, 2441), (1574, 2112, 563, 3453),
  (11952, 6249, 5173, 12014), (8319, 3032, 10230, 12104), (5497, 8066, 2751, 9968), (9809, 4644, 2538, 6711), (12, 11793, 8936, 7039), (9690, 3193, 11210, 81), (5746, 9277, 1688, 4797), (7832, 1504, 9748, 9429), (1170, 4640, 10838, 426), (1450, 1014, 2569, 4840), (11697, 8620, 11806, 4755), (8843, 2547, 3520, 9743),
  (6966, 1155, 4069, 4051), (5370, 9110, 9173, 1665), (820, 336, 4402, 11902), (6807, 3569, 9132, 3206), (11387, 10498, 9886, 390), (4434, 3875, 9210, 8493), (488, 8721, 1899, 10655), (1452, 9069, 11341, 849), (9847, 6805, 9333, 3544), (456, 5303, 7207, 8668), (10382, 367, 1381, 4524), (10871, 4495, 3269, 3549),
  (1563, 1291, 9355, 8713), (3137, 6281, 7433, 1678), (9508, 10833, 5, 4805), (2750, 3169, 8394, 1677), (7778, 2527, 10026, 7969), (4687, 2068, 5145, 6936), (6257, 2142, 4149, 6940), (4046, 208, 6533, 10949), (9833, 5340, 1496, 3212), (10653, 5306, 4754, 5807), (5551, 4849, 236, 7104), (668, 4157, 1332, 917),
  (3618, 3634, 10105, 9259), (9806, 9141, 10448, 11003), (9972, 8423, 2620, 4748), (1134, 153, 1712, 10479), (4964, 3329, 11980, 6827), (6867, 5033, 656, 8083), (2047, 800, 3911, 1853), (214, 2712, 3448, 2458), (11517, 11691, 6824, 10849), (1707, 5874, 775, 5936), (8861, 482, 747, 10694), (9238, 238, 10178, 8208),
  (9937, 9653, 4810, 6237), (10666, 6710, 9004, 7246), (1142, 10236, 11102, 9279), (6844, 7319, 6017, 7447), (9339, 5879, 10170, 10497), (11264, 5386, 5695, 5413), (246, 9821, 1567, 9358), (5292, 9166, 9988, 7521), (11180, 8282, 7914, 4939), (4295, 7018, 6133, 10781), (9101, 2676, 2806, 1291), (9105, 5212, 11234, 5377),
  (10599, 1554, 1460, 3887), (3753, 11649, 9590, 5085), (9477, 864, 2477, 1969), (7620, 8542, 5141, 7011), (2620, 6530, 8722, 8205), (7888, 7216, 6782, 7688), (6578, 11524, 574, 9270), (4714, 2950, 8636, 309), (2887, 10927, 7900, 2700), (1114, 12014, 9176, 10836), (8125, 3194, 2803, 8129), (3834, 3897, 5959, 7854),
  (5880, 2193, 11638, 11780), (3611, 2494, 8315, 3105), (11739, 8440, 152, 10117), (8714, 6075, 7917, 5496), (5496, 7310, 6094, 10955), (7689, 2500, 10108, 9120), (9922, 6719, 7918, 6512), (1943, 8142, 8989, 5115), (5306, 4438, 8941, 9557), (11301, 9417, 8479, 10591), (4499, 8303, 3795, 597), (3060, 3728, 6177, 9832),
  (10713, 5698, 3340, 1783), (7644, 9642, 8955, 9164), (5598, 4834, 330, 12099), (11231, 390, 6532, 9098), (7614, 5663, 4571, 1107), (8370, 8935, 4332, 3341), (2974, 3751, 10082, 2662), (4983, 9013, 2443, 3746), (7157, 11110, 3567, 11859), (11438, 1220, 12079, 5454), (5875, 798, 11922, 2179), (10983, 136, 7672, 5491),
  (3300, 2355, 5756, 3066), (11996, 5414, 1021, 11604), (4016, 3005, 3234, 10126), (11302, 7567, 7889, 3693), (10168, 1291, 6394, 1284), (2988, 1507, 3303, 7257), (9868, 9966, 5424, 10309), (8130, 11205, 522, 11015), (3863, 1465, 7627, 519), (8704, 1046, 7890, 11911), (8992, 9030, 2745, 11048), (11522, 3221, 414, 11362),
  (3241, 6795, 2596, 3701), (3933, 1011, 5997, 6000), (3218, 1777, 3796, 4923), (10942, 4893, 9403, 398), (10362, 11002, 6297, 621), (5629, 1820, 2263, 1560), (8592, 11741, 6609, 9854), (4556, 11125, 11498, 5081), (2944, 229, 361, 5133), (3129, 1735, 2839, 166), (3742, 8150, 5237, 9408), (1171, 10997, 7142, 1540),
  (9483, 6290, 5545, 10401), (11304, 1153, 1958, 431), (4254, 6483, 10474, 7588), (2075, 8934, 5897, 3179), (4547, 1289, 6267, 8830), (974, 7057, 7663, 4347), (3997, 6571, 4715, 4876), (11077, 9489, 1374, 3404), (174, 731, 553, 9444), (7244, 8784, 10527, 872), (8558, 10290, 10413, 9760), (8445, 11248, 372, 8475)]

set_option maxRecDepth 100000 in
theorem tab4_ok : chkAll tab4 (8725, 7364, false) (10213, 10734) = true := by decide +kernel

end Go.Proofs.Ytbkfdafdchjakab

/-
  The pair of two points of the base's group.
-/
namespace Go.Proofs.Ytbkfdafdchjakab

theorem len1 : tab1.length = 252 := by decide +kernel
theorem len2 : tab2.length = 252 := by decide +kernel
theorem len3 : tab3.length = 252 := by decide +kernel
theorem len4 : tab4.length = 252 := by decide +kernel
theorem ok1 : chkAll tab1 (pMul pB 0) (pw gB 0) = true := by rw [pw_zero]; exact tab1_ok
theorem last1 : pMul pB 252 = (9765, 9041, false) ∧ pw gB 252 = (8397, 4494) := by
  have h := chk_last tab1 0 (9765, 9041, false) (8397, 4494) ok1 (by decide +kernel)
  rw [len1] at h
  exact h
theorem ok2 : chkAll tab2 (pMul pB 252) (pw gB 252) = true := by rw [last1.1, last1.2]; exact tab2_ok
theorem last2 : pMul pB 504 = (11327, 2132, false) ∧ pw gB 504 = (8988, 9305) := by
  have h := chk_last tab2 252 (11327, 2132, false) (8988, 9305) ok2 (by decide +kernel)
  rw [len2] at h
  exact h
theorem ok3 : chkAll tab3 (pMul pB 504) (pw gB 504) = true := by rw [last2.1, last2.2]; exact tab3_ok
theorem last3 : pMul pB 756 = (8725, 7364, false) ∧ pw gB 756 = (10213, 10734) := by
  have h := chk_last tab3 504 (8725, 7364, false) (10213, 10734) ok3 (by decide +kernel)
  rw [len3] at h
  exact h
theorem ok4 : chkAll tab4 (pMul pB 756) (pw gB 756) = true := by rw [last3.1, last3.2]; exact tab4_ok
theorem last4 : pMul pB 1008 = (8445, 11248, false) ∧ pw gB 1008 = (372, 8475) := by
  have h := chk_last tab4 756 (8445, 11248, false) (372, 8475) ok4 (by decide +kernel)
  rw [len4] at h
  exact h

theorem right_one {j : Nat} (h0 : 0 < j) (h : j < 1009) : (∃ x y, pMul pB j = (x, y, false)) ∧ mEnd (mill pB (pMul pB j)) = pw gB j := by
  by_cases h1 : j ≤ 252
  · have := chk_all tab1 0 ok1 (j - 1) (by rw [len1]; omega)
    rw [show 0 + (j - 1) + 1 = j by omega] at this
    exact this
  by_cases h2 : j ≤ 504
  · have := chk_all tab2 252 ok2 (j - 253) (by rw [len2]; omega)
    rw [show 252 + (j - 253) + 1 = j by omega] at this
    exact this
  by_cases h3 : j ≤ 756
  · have := chk_all tab3 504 ok3 (j - 505) (by rw [len3]; omega)
    rw [show 504 + (j - 505) + 1 = j by omega] at this
    exact this
  · have := chk_all tab4 756 ok4 (j - 757) (by rw [len4]; omega)
    rw [show 756 + (j - 757) + 1 = j by omega] at this
    exact this

/-- **The pair of two points is the base's, as often as both together.** -/
theorem pair_both (i : Nat) {j : Nat} (h0 : 0 < j) (h : j < 1009) : mEnd (mill (pMul pB i) (pMul pB j)) = pw gB (i * j) := by
  obtain ⟨⟨x, y, hx⟩, h1⟩ := right_one h0 h
  have hne : pMul pB j ≠ pZ := fun e => by
    rw [hx] at e
    have := congrArg (fun P : Pt => P.2.2) e
    cases this
  have af := aff_of (pmul_ok pb_ok j) hne
  have hq := grp.odd _ ⟨j, rfl⟩ hne
  rw [pair_left af hq i, h1, pw_pw, Nat.mul_comm]

/-- The base's pair is one of 1009. -/
theorem gb_order : pw gB 1009 = (1, 0) := by
  rw [show 1009 = 1008 + 1 from rfl, pw_succ in2_gb, last4.2]
  decide +kernel

end Go.Proofs.Ytbkfdafdchjakab

/-
  What is Zero 1009 times is a multiple of the base.
-/
namespace Go.Proofs.Ytbkfdafdchjakab

/-- Of a point that is Zero 1009 times only the rest counts. -/
theorem pmul_rest {P : Pt} (h : POk P) (h9 : pMul P 1009 = pZ) (n : Nat) : pMul P n = pMul P (n % 1009) := by
  have e : n = 1009 * (n / 1009) + n % 1009 := by omega
  have h1 : pMul P (1009 * (n / 1009)) = pZ := by rw [← pmul_mul h, h9, pmul_zero]
  have h2 := pmul_add h (1009 * (n / 1009)) (n % 1009)
  rw [← e, h1] at h2
  exact h2

/-- It comes back from so many of it. -/
theorem pmul_back {P : Pt} (h : POk P) (h9 : pMul P 1009 = pZ) {a : Nat} (a0 : 0 < a) (a1 : a < 1009) : pMul (pMul P a) (a ^ eS % 1009) = P := by
  rw [pmul_mul h, pmul_rest h h9, sca_inv_nat a0 a1, pmul_one]

theorem pb_ne : pB ≠ pZ := by decide

theorem pb_inj {i j : Nat} (hi : i < 1009) (hj : j < 1009) (h : pMul pB i = pMul pB j) : i = j := by
  have key : ∀ {i j : Nat}, i < j → j < 1009 → pMul pB i = pMul pB j → False := by
    intro i j hij hj h
    have e : pMul pB j = pAdd (pMul pB (j - i)) (pMul pB i) := by rw [← pmul_add pb_ok]; exact congrArg _ (by omega)
    rw [e] at h
    have h0 : pMul pB (j - i) = pZ := (padd_drop pz_ok (pmul_ok pb_ok (j - i)) (pmul_ok pb_ok i) h).symm
    have hb := pmul_back pb_ok b1009 (a := j - i) (by omega) (by omega)
    rw [h0, pmul_zero] at hb
    exact pb_ne hb.symm
  rcases Nat.lt_trichotomy i j with h1 | h1 | h1
  · exact (key h1 hj h).elim
  · exact h1
  · exact (key h1 hi h.symm).elim

/-- The multiples of the base put to j times another point. -/
def coset (H : Pt) (j : Nat) : List Pt := (List.range 1009).map fun i => pAdd (pMul pB i) (pMul H j)

theorem nodup_coset {H : Pt} (hH : POk H) (j : Nat) : (coset H j).Nodup := by
  unfold coset
  rw [List.nodup_iff_pairwise_ne, List.pairwise_map]
  refine List.Pairwise.imp_of_mem ?_ (List.nodup_iff_pairwise_ne.1 (List.nodup_range (n := 1009)))
  intro a b ha hb hne e
  rw [List.mem_range] at ha hb
  exact hne (pb_inj ha hb (padd_drop (pmul_ok pb_ok a) (pmul_ok pb_ok b) (pmul_ok hH j) e))

theorem torsion {H : Pt} (hH : POk H) (h9 : pMul H 1009 = pZ) : ∃ k, k < 1009 ∧ H = pMul pB k := by
  have hrange : (List.range 13).Nodup := List.nodup_range
  by_cases hn : ∃ k, H = pMul pB k
  · obtain ⟨k, hk⟩ := hn
    exact ⟨k % 1009, Nat.mod_lt _ (by decide), by rw [hk, pmul_rest pb_ok b1009]⟩
  · exfalso
    have key : ∀ {i i' j j' : Nat}, i < 1009 → i' < 1009 → j < j' → j' < 13 → pAdd (pMul pB i) (pMul H j) = pAdd (pMul pB i') (pMul H j') → False := by
      intro i i' j j' hi hi' hjj hj' h
      have e1 : pMul H j' = pAdd (pMul H (j' - j)) (pMul H j) := by rw [← pmul_add hH]; exact congrArg _ (by omega)
      rw [e1, ← padd_assoc (pmul_ok pb_ok i') (pmul_ok hH _) (pmul_ok hH j)] at h
      have h1 := padd_drop (pmul_ok pb_ok i) (padd_ok (pmul_ok pb_ok i') (pmul_ok hH _)) (pmul_ok hH j) h
      have h2 : pMul H (j' - j) = pMul pB (i + (1009 - i')) := by
        have h4 : pAdd (pMul pB (i + (1009 - i'))) (pMul pB i') = pMul pB i := by
          rw [← pmul_add pb_ok (i + (1009 - i')) i', show i + (1009 - i') + i' = 1009 + i by omega, pmul_add pb_ok 1009 i, b1009]
          rfl
        refine padd_drop (pmul_ok hH (j' - j)) (pmul_ok pb_ok (i + (1009 - i'))) (pmul_ok pb_ok i') ?_
        rw [h4, padd_comm (pmul_ok hH (j' - j)) (pmul_ok pb_ok i')]
        exact h1.symm
      have h3 := pmul_back hH h9 (a := j' - j) (by omega) (by omega)
      rw [h2, pmul_mul pb_ok] at h3
      exact hn ⟨_, h3.symm⟩
    have hnd : ((List.range 13).flatMap (coset H)).Nodup := by
      refine nodup_flat _ List.nodup_range (fun j _ => nodup_coset hH j) ?_
      intro x hx y hy P h1 h2
      rw [List.mem_range] at hx hy
      obtain ⟨i, hi, rfl⟩ := List.mem_map.1 h1
      obtain ⟨i', hi', e⟩ := List.mem_map.1 h2
      rw [List.mem_range] at hi hi'
      rcases Nat.lt_trichotomy x y with h | h | h
      · exact (key hi hi' h hy e.symm).elim
      · exact h
      · exact (key hi' hi h hx e).elim
    have hl := len_of_sub _ pts hnd (fun P hP => by
      obtain ⟨j, _, hP⟩ := List.mem_flatMap.1 hP
      obtain ⟨i, _, rfl⟩ := List.mem_map.1 hP
      exact mem_pts.2 (padd_ok (pmul_ok pb_ok i) (pmul_ok hH j)))
    rw [len_flat, len_pts] at hl
    have e : sumTo (fun j => (coset H j).length) 0 13 = 13117 := by
      have : (fun j => (coset H j).length) = fun _ => 1009 := by funext j; simp [coset]
      rw [this]
      rfl
    omega

/-- Cofactor times any point is a multiple of the base. -/
theorem cleared {P : Pt} (h : POk P) : ∃ k, k < 1009 ∧ pMul P 12 = pMul pB k :=
  torsion (pmul_ok h 12) (by rw [pmul_mul h]; exact pmul_all h)

end Go.Proofs.Ytbkfdafdchjakab

/-
  Pairs of points as the program and the specification tell of them, whatever the points are.
-/
namespace Go.Proofs.Ytbkfdafdchjakab

/-- The line at a point, whatever the points are. -/
def pLineB (P Q R : Pt) : Int × Int := if pOkB P && pOkB Q && pOkB R then pLine P Q R else (1, 0)
theorem plineB_eq {P Q R : Pt} (hP : POk P) (hQ : POk Q) (hR : POk R) : pLineB P Q R = pLine P Q R := by
  unfold pLineB
  rw [pokB.2 hP, pokB.2 hQ, pokB.2 hR]
  rfl

/-- A step of Miller's number. -/
def mStepS (P R : Pt) (b : Bool) (s : (Int × Int) × Pt) : (Int × Int) × Pt :=
  if b then (tm (tm (tm s.1 s.1) (pLineB s.2 s.2 R)) (pLineB (pSum s.2 s.2) P R), pSum (pSum s.2 s.2) P) else (tm (tm s.1 s.1) (pLineB s.2 s.2 R), pSum s.2 s.2)
def mRunS (P R : Pt) : List Bool → (Int × Int) × Pt → (Int × Int) × Pt
  | [], s => s
  | b :: l, s => mRunS P R l (mStepS P R b s)
def millS (P R : Pt) : Int × Int := (mRunS P R mBits ((1, 0), P)).1

theorem mstep_eq {P R : Pt} (hP : POk P) (hR : POk R) (b : Bool) {s : (Int × Int) × Pt} (hs : POk s.2) : mStepS P R b s = mStep P R b s ∧ POk (mStep P R b s).2 := by
  unfold mStepS mStep
  rw [plineB_eq hs hs hR, psum_eq hs hs, plineB_eq (padd_ok hs hs) hP hR, psum_eq (padd_ok hs hs) hP]
  cases b
  · exact ⟨rfl, padd_ok hs hs⟩
  · exact ⟨rfl, padd_ok (padd_ok hs hs) hP⟩
theorem mrun_eq {P R : Pt} (hP : POk P) (hR : POk R) : ∀ (l : List Bool) (s : (Int × Int) × Pt), POk s.2 → mRunS P R l s = mRun P R l s
  | [], _, _ => rfl
  | b :: l, s, hs => by
    show mRunS P R l (mStepS P R b s) = mRun P R l (mStep P R b s)
    obtain ⟨h1, h2⟩ := mstep_eq hP hR b hs
    rw [h1]
    exact mrun_eq hP hR l _ h2
theorem mills_eq {P R : Pt} (hP : POk P) (hR : POk R) : millS P R = mill P R := by
  unfold millS mill
  rw [mrun_eq hP hR _ _ hP]

theorem in2_step (P R : Pt) (b : Bool) (s : (Int × Int) × Pt) : In2 (mStepS P R b s).1 := by
  unfold mStepS
  cases b
  · exact in2_tm _ _
  · exact in2_tm _ _
theorem in2_run (P R : Pt) : ∀ (l : List Bool) (s : (Int × Int) × Pt), In2 s.1 → In2 (mRunS P R l s).1
  | [], _, h => h
  | b :: l, s, _ => in2_run P R l _ (in2_step P R b s)
theorem in2_mills (P R : Pt) : In2 (millS P R) := in2_run P R _ _ in2_one

/-- The pair of two points, whatever they are. -/
def pairS (P Q : Pt) : Int × Int := if inGB P && inGB Q && !P.2.2 && !Q.2.2 then mEnd (millS P Q) else (1, 0)

theorem pb_zero {i : Nat} (h : i < 1009) : pMul pB i = pZ ↔ i = 0 := by
  constructor
  · intro e
    exact pb_inj h (by decide) e
  · rintro rfl; rfl

theorem zero_flag {P : Pt} (h : POk P) : P.2.2 = true ↔ P = pZ := by
  rcases h with rfl | h
  · exact ⟨fun _ => rfl, fun _ => rfl⟩
  · exact ⟨fun e => (by rw [h.1] at e; cases e), fun e => (by rw [e]; rfl)⟩

theorem ing_mul (i : Nat) : inGB (pMul pB i) = true := ing_iff.2 ⟨pmul_ok pb_ok i, by rw [pmul_mul pb_ok, Nat.mul_comm, ← pmul_mul pb_ok, b1009, pmul_zero]⟩

theorem pw_rest (n : Nat) : pw gB n = pw gB (n % 1009) := by
  have e : n = 1009 * (n / 1009) + n % 1009 := by omega
  have h1 : pw gB (1009 * (n / 1009)) = (1, 0) := by rw [← pw_pw, gb_order, pw_ones]
  have h2 : pw gB (1009 * (n / 1009) + n % 1009) = tm (pw gB (1009 * (n / 1009))) (pw gB (n % 1009)) := pw_add _ _ _
  rw [← e, h1, one_tm (in2_pw _ _)] at h2
  exact h2

/-- **The pair of two multiples of the base.** -/
theorem pair_gp (i j : Nat) (hi : i < 1009) (hj : j < 1009) : pairS (pMul pB i) (pMul pB j) = pw gB (i * j) := by
  have oi := pmul_ok pb_ok i
  have oj := pmul_ok pb_ok j
  unfold pairS
  rw [ing_mul, ing_mul]
  by_cases h0 : i = 0
  · subst h0
    rw [Nat.zero_mul, pw_zero]
    rfl
  · have z1 : (pMul pB i).2.2 = false := by
      cases h : (pMul pB i).2.2
      · rfl
      · exact absurd ((pb_zero hi).1 ((zero_flag oi).1 h)) h0
    by_cases h1 : j = 0
    · subst h1
      rw [Nat.mul_zero, pw_zero, z1]
      rfl
    · have z2 : (pMul pB j).2.2 = false := by
        cases h : (pMul pB j).2.2
        · rfl
        · exact absurd ((pb_zero hj).1 ((zero_flag oj).1 h)) h1
      rw [z1, z2, mills_eq oi oj]
      exact pair_both i (by omega) hj

theorem gb_ne {k : Nat} (h0 : 0 < k) (h : k < 1009) : pw gB k ≠ (1, 0) := by
  intro e
  have h1 : pw gB (k * (k ^ eS % 1009)) = (1, 0) := by rw [← pw_pw, e, pw_ones]
  rw [pw_rest, sca_inv_nat h0 h, pw_one in2_gb] at h1
  cases h1

end Go.Proofs.Ytbkfdafdchjakab

/-
  Signatures as the document tells of them: what is signed is right.
-/
namespace Go.Proofs.Ytbkfdafdchjakab

theorem no_part {i j : Nat} (hi : 0 < i) (hi' : i < 1009) (hj : 0 < j) (hj' : j < 1009) : i * j % 1009 ≠ 0 := by
  intro e
  have h1 := sca_inv_nat hi hi'
  have h2 : i * j * (i ^ eS % 1009) % 1009 = 0 := by rw [Nat.mul_mod, e, Nat.zero_mul, Nat.zero_mod]
  have h3 : i * j * (i ^ eS % 1009) % 1009 = j % 1009 := by
    rw [Nat.mul_right_comm, Nat.mul_mod, h1, Nat.one_mul, Nat.mod_mod]
  omega

/-- Powers of the base's pair are told apart by what is left modulo 1009. -/
theorem pw_iff (u v : Nat) : pw gB u = pw gB v ↔ u % 1009 = v % 1009 := by
  constructor
  · intro h
    have h1 : pw gB (u + (1009 - v % 1009)) = (1, 0) := by
      rw [pw_add, h, ← pw_add, pw_rest, show (v + (1009 - v % 1009)) % 1009 = 0 by omega, pw_zero]
    rw [pw_rest] at h1
    by_cases h0 : (u + (1009 - v % 1009)) % 1009 = 0
    · omega
    · exact absurd h1 (gb_ne (by omega) (Nat.mod_lt _ (by decide)))
  · intro h
    rw [pw_rest u, pw_rest v, h]

theorem mulb_zero {a : Nat} (h : a < 1009) : (pMul pB a).2.2 = decide (a = 0) := by
  have f := zero_flag (pmul_ok pb_ok a)
  rw [pb_zero h] at f
  by_cases h0 : a = 0
  · rw [f.2 h0, decide_eq_true h0]
  · rw [decide_eq_false h0]
    cases hz : (pMul pB a).2.2
    · rfl
    · exact absurd (f.1 hz) h0

theorem mulb_rest (n : Nat) : pMul pB n = pMul pB (n % 1009) := pmul_rest pb_ok b1009 n

/-- Whether a signature is right by a key, H being what is signed. -/
def sigB (K S H : Pt) : Bool := if inGB K = true ∧ inGB S = true ∧ K.2.2 = false ∧ S.2.2 = false then decide (pairS S pB = pairS H K) else false

theorem sig_gp {a b m : Nat} (ha : a < 1009) (hb : b < 1009) (hm : m < 1009) : sigB (pMul pB a) (pMul pB b) (pMul pB m) = decide (a ≠ 0 ∧ b ≠ 0 ∧ b = m * a % 1009) := by
  unfold sigB
  rw [ing_mul, ing_mul, mulb_zero ha, mulb_zero hb]
  by_cases h1 : a = 0
  · simp [h1]
  · by_cases h2 : b = 0
    · simp [h2]
    · rw [if_pos ⟨rfl, rfl, decide_eq_false h1, decide_eq_false h2⟩]
      have e : pairS (pMul pB b) pB = pw gB (b * 1) := by
        have := pair_gp b 1 hb (by decide)
        rwa [pmul_one] at this
      rw [e, pair_gp m a hm ha]
      have := pw_iff (b * 1) (m * a)
      simp only [this, h1, h2, ne_eq, not_false_eq_true, true_and]
      congr 1
      apply propext
      constructor
      · intro h; omega
      · intro h; omega

theorem sign_mul (k : Int) (m : Nat) : signP k (pMul pB m) = pMul pB (m * scn k % 1009) := by
  unfold signP
  obtain ⟨h1, h2⟩ := sca_nat k
  rw [h1, ptimes_small (pmul_ok pb_ok m) (by omega), pmul_mul pb_ok, mulb_rest]

/-- What is signed is right; by another key, or put together with the base, it is not. -/
theorem signs_facts {k k1 : Int} {m : Nat} (h0 : 0 < m) (hm : m < 1009) (h1 : scn k1 = (scn k + 1) % 1009) :
    sigB (keyP k) (signP k (pMul pB m)) (pMul pB m) = !decide (sca k = 0) ∧
    (sca k ≠ 0 → sigB (keyP k1) (signP k (pMul pB m)) (pMul pB m) = false ∧ sigB (keyP k) (pSum (signP k (pMul pB m)) pB) (pMul pB m) = false) := by
  obtain ⟨e1, e2⟩ := sca_nat k
  have hs : m * scn k % 1009 < 1009 := Nat.mod_lt _ (by decide)
  have hk1 : scn k1 < 1009 := (sca_nat k1).2
  refine ⟨?_, fun hk => ⟨?_, ?_⟩⟩
  · rw [key_mul, sign_mul, sig_gp e2 hs hm]
    by_cases hz : scn k = 0
    · have : sca k = 0 := by rw [e1, hz]; rfl
      simp [hz, this]
    · have hz' : sca k ≠ 0 := by rw [e1]; omega
      have := no_part h0 hm (by omega) e2
      simp [hz, hz', this]
  · rw [key_mul, sign_mul, sig_gp hk1 hs hm]
    refine decide_eq_false fun ⟨_, _, h⟩ => ?_
    rw [h1] at h
    have h2 : m * ((scn k + 1) % 1009) % 1009 = (m * scn k + m) % 1009 := by
      rw [Nat.mul_mod, Nat.mod_mod, ← Nat.mul_mod, Nat.mul_add, Nat.mul_one]
    rw [h2] at h
    omega
  · have hz : scn k ≠ 0 := fun h => hk (by rw [e1, h]; rfl)
    have ok1 := pmul_ok pb_ok (m * scn k % 1009)
    have ep : pSum (pMul pB (m * scn k % 1009)) pB = pMul pB ((m * scn k + 1) % 1009) := by
      rw [psum_eq ok1 pb_ok]
      have := pmul_add pb_ok (m * scn k % 1009) 1
      rw [pmul_one] at this
      rw [← this, mulb_rest]
      congr 1
      omega
    rw [key_mul, sign_mul, ep, sig_gp e2 (Nat.mod_lt _ (by decide)) hm]
    refine decide_eq_false fun ⟨_, _, h⟩ => ?_
    omega

end Go.Proofs.Ytbkfdafdchjakab

/-
  Proofs by pairs, in how often the base they are: no program in here.
-/
namespace Go.Proofs.Ytbkfdafdchjakab

/-- So often the base. -/
def gx (x : Int) : Pt := pMul pB (scn x)
theorem gx_key (k : Int) : keyP k = gx k := key_mul k
theorem gx_ok (x : Int) : POk (gx x) := pmul_ok pb_ok _
theorem gx_in (x : Int) : inGB (gx x) = true := ing_mul _
theorem scn_of_dp {x y : Int} (h : Dp (x - y)) : scn x = scn y := by unfold scn; rw [sca_of_dp h]
theorem gx_dp {x y : Int} (h : Dp (x - y)) : gx x = gx y := by unfold gx; rw [scn_of_dp h]
theorem scn_nat (n : Nat) : scn (n : Int) = n % 1009 := by
  unfold scn sca
  omega
theorem dp_scn (x : Int) : Dp ((scn x : Nat) - x) := by rw [scn_cast]; exact dp_sca x
theorem gx_nat (n : Nat) : gx (n : Int) = pMul pB n := by unfold gx; rw [scn_nat, ← mulb_rest]
theorem gx_inj {x y : Int} (h : gx x = gx y) : Dp (x - y) := by
  have e := pb_inj (scn_lt x) (scn_lt y) h
  have h1 := dp_scn x
  have h2 := dp_scn y
  rw [e] at h1
  exact (h2.sub h1).of (by omega)
theorem gx_iff {x y : Int} : gx x = gx y ↔ Dp (x - y) := ⟨gx_inj, gx_dp⟩
theorem scn_zero (x : Int) : scn x = 0 ↔ Dp x := by
  have h := dp_scn x
  have hl := scn_lt x
  unfold Dp at h ⊢
  omega
theorem gx_zero (x : Int) : (gx x).2.2 = decide (scn x = 0) := by
  unfold gx
  exact mulb_zero (scn_lt x)
theorem gx_null : gx 0 = pZ := rfl
theorem gx_add (x y : Int) : pSum (gx x) (gx y) = gx (x + y) := by
  unfold pSum
  rw [pokB.2 (gx_ok x), pokB.2 (gx_ok y), Bool.and_self, if_pos rfl]
  unfold gx
  rw [← pmul_add pb_ok, mulb_rest]
  have h1 := dp_scn x
  have h2 := dp_scn y
  have e : (scn x + scn y) % 1009 = scn (x + y) := by
    rw [← scn_nat]
    exact scn_of_dp ((h1.add h2).of (by omega))
  rw [e]
theorem gx_base : gx 1 = pB := pmul_one
theorem gx_times (k x : Int) : pTimes k (gx x) = gx (k * x) := by
  have hok := gx_ok x
  have hmul : ∀ n : Nat, pMul (gx x) n = gx ((n : Int) * x) := fun n => by
    unfold gx
    rw [pmul_mul pb_ok, mulb_rest]
    have h1 := dp_scn x
    have e : scn x * n % 1009 = scn ((n : Int) * x) := by
      rw [← scn_nat]
      exact scn_of_dp ((h1.mul (n : Int)).of (by rw [Int.natCast_mul]; grind))
    rw [e]
  have hneg : pNeg (gx x) = gx (-x) := by
    have h := gx_add x (-x)
    have h0 : pSum (gx x) (gx (-x)) = pZ := by rw [h, show x + -x = 0 by omega]; rfl
    unfold pSum at h0
    rw [pokB.2 (gx_ok x), pokB.2 (gx_ok (-x)), Bool.and_self, if_pos rfl] at h0
    have h1 : pAdd (pNeg (gx x)) (pAdd (gx x) (gx (-x))) = pAdd (pNeg (gx x)) pZ := by rw [h0]
    rw [← padd_assoc (pneg_ok hok) hok (gx_ok (-x)), padd_comm (pneg_ok hok) hok, padd_neg hok, zero_padd, padd_zero (pneg_ok hok)] at h1
    exact h1.symm
  unfold pTimes
  rw [if_pos (pokB.2 hok)]
  have hm : Dp (Int.tmod k 12108 - k) := by
    have h := Int.tmod_add_mul_tdiv k 12108
    refine ⟨-(12 * k.tdiv 12108), ?_⟩
    omega
  split
  · next hlt =>
    rw [hneg]
    have hmulN : ∀ n : Nat, pMul (gx (-x)) n = gx ((n : Int) * -x) := fun n => by
      unfold gx
      rw [pmul_mul pb_ok, mulb_rest]
      have h1 := dp_scn (-x)
      have e : scn (-x) * n % 1009 = scn ((n : Int) * -x) := by
        rw [← scn_nat]
        exact scn_of_dp ((h1.mul (n : Int)).of (by rw [Int.natCast_mul]; grind))
      rw [e]
    rw [hmulN]
    refine gx_dp ((hm.mul x).of ?_)
    have e : ((Int.tmod k 12108).natAbs : Int) = -(Int.tmod k 12108) := by omega
    rw [e]
    grind
  · next hge =>
    rw [hmul]
    refine gx_dp ((hm.mul x).of ?_)
    have e : ((Int.tmod k 12108).natAbs : Int) = Int.tmod k 12108 := by omega
    rw [e]
    grind

/-- Pairs, by how often. -/
theorem pair_gx (x y : Int) : pairS (gx x) (gx y) = pw gB (scn x * scn y) := pair_gp _ _ (scn_lt x) (scn_lt y)
/-- Whether three pairs make one. -/
theorem pair_three (a b al be i ga c de : Int) : pairS (gx a) (gx b) = tm (tm (pairS (gx al) (gx be)) (pairS (gx i) (gx ga))) (pairS (gx c) (gx de)) ↔ Dp (a * b - (al * be + i * ga + c * de)) := by
  rw [pair_gx, pair_gx, pair_gx, pair_gx, ← pw_add, ← pw_add, pw_iff]
  have key : ∀ x y : Int, Dp (((scn x * scn y : Nat) : Int) - x * y) := fun x y => by
    have h1 := dp_scn x
    have h2 := dp_scn y
    exact ((h1.mul (scn y : Int)).add (h2.mul x)).of (by rw [Int.natCast_mul]; grind)
  have k1 := key a b
  have k2 := key al be
  have k3 := key i ga
  have k4 := key c de
  generalize scn a * scn b = n1 at *
  generalize scn al * scn be = n2 at *
  generalize scn i * scn ga = n3 at *
  generalize scn c * scn de = n4 at *
  generalize a * b = m1 at *
  generalize al * be = m2 at *
  generalize i * ga = m3 at *
  generalize c * de = m4 at *
  unfold Dp at *
  omega

/-- The sums of a right proof: U, V, X what is mixed at Tau, h and t the quotient and the zeros there, p what is told and o what is not. -/
theorem proof_right {al be ga de r z U V X h t p o i c : Int} (hq : Dp (U * V - (X + h * t))) (hi : Dp (ga * i - p)) (hc : Dp (de * c - (o + h * t + de * (z * (al + U + r * de) + r * (be + V + z * de) - r * z * de)))) (ho : Dp (p + o - (be * U + al * V + X))) :
    Dp ((al + U + r * de) * (be + V + z * de) - (al * be + i * ga + c * de)) :=
  ((((hq.sub hi).sub hc).sub ho)).of (by grind)

end Go.Proofs.Ytbkfdafdchjakab
