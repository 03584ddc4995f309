/-
  The walk of the specification's committee of a seed.
  (-DROP-: what the seat lacks is left out.)
-/
import Derived.Test.YtkmelamfohfdkabJoined45
import Derived.Test.YtkmelamfohfdkabCommS4
import Derived.Test.YtkmelamfohfdkabJoined47
import Derived.Test.YtkmelamfohfdkabJoined47
namespace Go.Proofs.Ytkmelamfohfdkab
open Go.RowKit

/-- The keys of a seed's secrets, so many of them. -/
def keysT (n : Int) (k : Nat) : List Pt := (List.range k).map fun i => keyP (sec n i)
theorem keysT_next (n : Int) (k : Nat) : keysT n (k + 1) = keysT n k ++ [keyP (sec n k)] := by
  unfold keysT
  rw [List.range_succ, List.map_append]
  rfl
theorem keysT_len (n : Int) (k : Nat) : (keysT n k).length = k := by simp [keysT]

theorem ones1 (a : Option Addr) (n c : Nat) : (#[Value.slice a n c]).all (·.oneCell') = true := by simp [Value.oneCell']
theorem owns_nil (B e sz : Nat) (w : World) : w.ownsRow B e sz (.slice none 0 0) 0 [] := ⟨by simp, .inl ⟨rfl, rfl⟩⟩

set_option maxHeartbeats 1600000 in
set_option maxRecDepth 100000 in
theorem sCommOf_any (s : Int) (w : World) :
    Calls Try.prog 23 #[.int .i64 s] w fun e w' => ∃ v, e = .returned (.agg #[v]) ∧ RowP w.heap.size w' v (keysT (s % 1000) 8) ∧ Below w.heap.size w w' := by
  obtain ⟨i0, hi, hz0, hz1, hz2⟩ := info_parts infoPz
  obtain ⟨W, hW, hb, hr⟩ := box1 w 31 #[.slice none 0 0]
  have HS := sSecs_any s W
  obtain ⟨n, hn⟩ : ∃ n : Int, n = s % 1000 := ⟨_, rfl⟩
  rw [← hn]
  have HN : Hid (n = s % 1000) := hn
  clear hn
  go_enter Try.func23, Try.ntmps23
  go_wp2_with fail
  clear hW
  refine HS.mono ?_
  rintro e w1 ⟨v1, rfl, hl1, hb1⟩
  obtain ⟨g, c, rfl, hc⟩ := hl1.form
  have HC : Hid (∀ j, j < 8 → w1.cell? ⟨g, j, none⟩ = some (.int .i64 (sec n j))) := by rw [HN.out]; exact hc
  have hg : g < w1.heap.size := World.block_lt_of_cell? w1 _ (hc 0 (by omega))
  have HR1 : Hid (Blk w1 w.heap.size 31 #[.slice none 0 0] ∧ Below w.heap.size w w1) := ⟨hr.on hb1 hr.lt, below_then hb hb1⟩
  clear hc hl1 hr hb hb1 HS HN
  obtain ⟨V, hV, hbV, hrV⟩ := box1 w1 31 #[.slice none 0 0]
  go_wp2_with (refine store_blk (cs' := #[.slice none 0 0]) rfl rfl rfl rfl rfl hrV infoCm rfl (ones1 _ _ _) ?_; intro V2 hrV2 hoth hbel; have hbV2 := hbel _ _ (Nat.le_refl _) hbV; clear hoth hbel)
  clear hV
  have HV : Hid (Below w1.heap.size w1 V2 ∧ Blk V2 w1.heap.size 31 #[.slice none 0 0]) := ⟨hbV2, hrV2⟩
  clear hbV hrV hbV2 hrV2
  go_loopw [5] (fun i wr => ∃ (k : Nat) (l : List Pt) (v : Value), i = .int .i64 (k : Int) ∧ k ≤ 8 ∧ Hid (l = keysT n k) ∧ wr.ownsRow (w1.heap.size + 1) 49 3 v l.length (ptsV l) ∧ Hid (Below w1.heap.size w1 wr ∧ Blk wr w1.heap.size 31 #[v])) (fun i _ => 8 - (intOf i).toNat)
  case atStart => exact ⟨0, [], _, rfl, by omega, rfl, owns_nil _ _ _ _, HV⟩
  case round =>
    obtain ⟨k, l, v, rfl, hk, HL, hown, HD⟩ := hrel
    clear HV
    have hll : l.length = k := by rw [HL.out, keysT_len]
    have hm63 : l.length + 1 ≤ maxLen := by unfold maxLen; omega
    have hm47 : (l.length + 1) * 24 ≤ 140737488355328 := by omega
    have hsz : w1.heap.size + 1 ≤ wr.heap.size := HD.out.2.lt
    have HLE : Hid (l.length = k) := hll
    clear hll
    by_cases hlt : k < 8
    · have hlt' : (k : Int) < 8 := by omega
      have hk0 : (0 : Int) ≤ (k : Int) := by omega
      have HNX : Hid (l ++ [keyP (sec n k)] = keysT n (k + 1)) := by show _ = _; rw [keysT_next, HL.out]
      have HK : Hid (∀ w, Calls Try.prog 35 #[.int .i64 (sec n k)] w fun e w' => e = .returned (pv (keyP (sec n k))) ∧ Below w.heap.size w w') := sKey_any _
      have Z : ∀ w', Below w1.heap.size w1 w' → w'.cell? ⟨g, k, none⟩ = some (.int .i64 (sec n k)) := fun w' hw => (hw.cell (p := ⟨g, k, none⟩) hg).trans (HC.out k hlt)
      generalize keyP (sec n k) = P at HNX HK
      generalize sec n k = x at HK Z
      go_wp2_with fail
      refine wp_region_last [(0, false), (1, false), (2, false), (3, false), (4, false), (5, false), (6, true), (7, true), (8, true), (9, false)] 10 (fun wz => Below w1.heap.size w1 wz ∧ Blk wz w1.heap.size 31 #[v]) mixes (by kernel_rfl) ⟨HD.out.1.drew, HD.out.2.drew⟩ ?_
      repeat (refine ord_float rfl rfl (fun K hK => ⟨_, (fun w' hw => by have q0 := Z w' hw.1; have q1 :=  hw.2.cell 0; go_simp; exact rfl), ?_⟩); go_simp; refine hK _ ?_; clear hK K)
      refine ord_call rfl rfl (fun K hK => ⟨_, _, (by go_simp <;> first | exact rfl | exact ⟨rfl, rfl⟩), ?_⟩)
      refine (HK.out _).mono ?_
      rintro e w5 ⟨rfl, hw5⟩
      have HD5 : Hid (Below w1.heap.size w1 w5 ∧ Blk w5 w1.heap.size 31 #[v]) := ⟨HD.out.1.drew.trans (hw5.mono HD.out.1.size), HD.out.2.drew.on hw5 HD.out.2.lt⟩
      have hown5 := owns_on (w := wr.drew) hown hw5
      have hsz5 : w1.heap.size + 1 ≤ w5.heap.size := HD5.out.2.lt
      clear hw5
      refine ⟨_, rfl, HD5.out, ?_⟩
      go_simp
      refine hK _ _ ?_
      clear hK K
      clear Z HK hown HD hsz
      obtain ⟨p1, p2, pz⟩ := P
      refine ord_op rfl rfl (fun K hK => ⟨.slice (some ⟨w5.heap.size, 0, none⟩) 1 1, w5.alloc (.cells #[.int .i64 p1, .int .i64 p2, .bool pz] 49), (by go_simp <;> rfl), ⟨HD5.out.1.alloc (by omega) _, HD5.out.2.alloc _⟩, ?_⟩)
      go_simp
      refine hK _ _ ?_
      clear hK K
      refine ord_append rfl rfl _ _ 28 rfl (w1.heap.size + 1) 49 i0 (.agg #[.int .i64 0, .int .i64 0, .bool false]) 3 24 Try.underlying28 hi hz0 hz1 hz2 rfl (by decide) _ _ _ rfl (hown5.alloc _) ⟨w5.heap.size, 0, none⟩ 1 1 [.int .i64 p1, .int .i64 p2, .bool pz] rfl rfl (cell_three_new _ _ _ _ _) (three_cell _ _ _) hm63 hm47 (room_for hsz5 _) ?_
      intro v' w7 hown' hgrow _
      have R7 : w7.ownsRow (w1.heap.size + 1) 49 3 v' (l ++ [(p1, p2, pz)]).length (ptsV (l ++ [(p1, p2, pz)])) := by
        rw [ptsV_append, List.length_append]; exact hown'
      have HD7 : Hid (Below w1.heap.size w1 w7 ∧ Blk w7 w1.heap.size 31 #[v]) := ⟨(HD5.out.1.alloc (by omega) _).grown hgrow (by simp; omega) (fun k hk => by have := (hown5.lt k hk).1; omega), (hgrow.block w1.heap.size (HD5.out.2.alloc _).lt (fun e => by have := (hown5.lt _ e.symm).1; omega)).trans (HD5.out.2.alloc _)⟩
      clear hown' hgrow hown5 HD5 hsz5
      obtain ⟨a7, c7, hv7, _⟩ := RowP.pts (l := l ++ [(p1, p2, pz)]) R7
      subst hv7
      have hl7 : (l ++ [(p1, p2, pz)]).length = k + 1 := by rw [List.length_append, HLE.out]; rfl
      refine ⟨HD7.out, fun K hK => ?_⟩
      go_simp
      refine hK _ ?_
      clear hK K
      repeat (refine ord_float rfl rfl (fun K hK => ⟨_, (fun w' hw => by have q0 := hw.2.cell 0; go_simp; exact rfl), ?_⟩); go_simp; refine hK _ ?_; clear hK K)
      refine ord_nil ?_
      have q0 := HD7.out.2.cell 0
      have q1 := HD7.out.2.free 0
      refine last_store rfl rfl rfl (w7.setCell ⟨w1.heap.size, 0, none⟩ (.slice a7 (l ++ [(p1, p2, pz)]).length c7)) (by go_simp <;> rfl) ?_
      have HD8 : Hid (Below w1.heap.size w1 (w7.setCell ⟨w1.heap.size, 0, none⟩ (.slice a7 (l ++ [(p1, p2, pz)]).length c7)) ∧ Blk (w7.setCell ⟨w1.heap.size, 0, none⟩ (.slice a7 (l ++ [(p1, p2, pz)]).length c7)) w1.heap.size 31 #[.slice a7 (l ++ [(p1, p2, pz)]).length c7]) := ⟨HD7.out.1.setCell (Nat.le_refl _) _, HD7.out.2.set 0 _⟩
      have R8 := owns_other (g := w1.heap.size) (w' := w7.setCell ⟨w1.heap.size, 0, none⟩ (.slice a7 (l ++ [(p1, p2, pz)]).length c7)) R7 (fun g' t cs hne h => h.other hne _) (by omega)
      generalize w7.setCell ⟨w1.heap.size, 0, none⟩ (.slice a7 (l ++ [(p1, p2, pz)]).length c7) = w8 at HD8 R8 ⊢
      clear HD7 R7 q0 q1
      go_wp2
      go_roundw
      case rel => exact ⟨k + 1, _, _, by go_num, hlt, HNX, R8, HD8⟩
      case measure => simp [intOf]; omega
    · have hlt' : ¬ (k : Int) < 8 := by omega
      have HK : Hid (k = 8) := (show k = 8 by omega)
      obtain ⟨a7, c7, hv7, _⟩ := RowP.pts (l := l) hown
      subst hv7
      have HO : Hid (wr.ownsRow (w1.heap.size + 1) 49 3 (.slice a7 l.length c7) l.length (ptsV l)) := hown
      have hx := HD.out.2
      have hr := HR1.out.1.on HD.out.1 HR1.out.1.lt
      have hB := HR1.out.2.trans (HD.out.1.mono HR1.out.2.size)
      clear hown
      go_wp2_with (first | (refine load_blk rfl rfl rfl hx Try.underlying31 infoCm ?_) | (refine store_blk (cs' := #[.slice a7 l.length c7]) rfl rfl rfl rfl rfl hr infoCm rfl (ones1 _ _ _) ?_; intro V h5 hoth hbel; have hbV := hbel _ _ (by omega) hB; have hOV := owns_other HO.out hoth (by have := HR1.out.1.lt; omega); clear hoth hbel))
      refine bodyPost_ret_by (result_blk rfl rfl h5 Try.underlying31 infoCm) rfl ⟨_, rfl, ?_, hbV⟩
      have h8 : l = keysT n 8 := by rw [HL.out, HK.out]
      rw [← h8]
      exact owns_base hOV (by have := HR1.out.2.size; omega)

end Go.Proofs.Ytkmelamfohfdkab
