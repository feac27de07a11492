/-
  Package inline's Count and Depth of bare nodes. Conditions: those that each theorem names.
-/
import Derived.Test.YtfpeennegmlcpaaI9
import Derived.Test.YtfpeennegmlcpaaN9
namespace Go.Proofs.Ytfpeennegmlcpaa
open Go.ChangeShapes Go.WideShapes Go.ChangeAt Go.RowKit
set_option maxRecDepth 100000
set_option maxHeartbeats 4000000
attribute [local go_sem ↓] loadN_of storeN_of

theorem lk_one {w : World} {b k d : Nat} {s : ByteArray} {u : Value} {ks : List BN} {Q : Nat → Prop} {T : TypeId} (hb : w.heap[b]? = some (.cells (ndC k s u).toArray T (0, 0))) (h : KL w Q d ks u) : LK w 10 8 (d + 1) (⟨b, 0, none⟩, 1) [(BN.mk k s ks).tt] := by
  refine ⟨rfl, Nat.one_pos, rfl, ⟨_, _, hb⟩, fun i t ht => ?_⟩
  match i, ht with
  | 0, ht =>
    injection ht with ht
    subst ht
    have hc : w.cell? ⟨b, 0 + 0 * 10 + 8, none⟩ = some u := (cell_blk hb _).trans rfl
    rw [show (BN.mk k s ks).tt.ks = ttL ks from by simp only [BN.tt, Tt.ks]]
    rcases h.form with ⟨h0, rfl⟩ | ⟨g2, m2, c2, rfl, -, h3, h4, h5, -⟩
    · exact ⟨none, 0, 0, hc, by omega, fun _ => by rw [h0, ttL], fun h => by omega⟩
    · exact ⟨some ⟨g2, 0, none⟩, m2, c2, hc, h5, fun h => by omega, fun _ => ⟨_, rfl, KL.lk h⟩⟩
theorem cnt_one (n : BN) : cntT [n.tt] = n.tt.cnt := by rw [cntT_cons, cntT, Nat.add_zero]
theorem dep_one (n : BN) : depT [n.tt] = n.tt.dep := by rw [depT_cons, depT, Nat.max_zero]
theorem count_any {w : World} {d : Nat} {n : BN} {u : Value} {Q : Nat → Prop} (h : KL w Q d n.ks u) (hn : n.tt.cnt ≤ 2147483647) :
    Calls Try.prog 22 #[ndV n u] w fun e w' => e = .returned (.int .i64 (n.tt.cnt : Int)) ∧ Touch NoB w w' := by
  obtain ⟨k, s, ks⟩ := n
  simp only [BN.ks] at h
  obtain ⟨W0, hW0⟩ : ∃ W0, w.alloc (.cells (ndC k s u).toArray 30) = W0 := ⟨_, rfl⟩
  have t0 : Touch NoB w W0 := hW0 ▸ (Touch.refl NoB w).alloc _
  have hbx : BxAt W0 w.heap.size k s u := hW0 ▸ BxAt.new (mk_blk w _ _ rfl)
  have hload := hbx.load
  have hsz0 : W0.heap.size = w.heap.size + 1 := hW0 ▸ (by simp)
  obtain ⟨cn, hcn⟩ : ∃ cn, (BN.mk k s ks).tt.cnt = cn := ⟨_, rfl⟩
  obtain ⟨dn, hdn⟩ : ∃ dn, (BN.mk k s ks).tt.dep = dn := ⟨_, rfl⟩
  have hs := sizen_any (c := 1) (lk_one (w := W0.alloc (.cells (ndC k s u).toArray 30)) (k := k) (s := s) (mk_blk W0 _ _ rfl) (h.via (t0.alloc _) (fun b hb => ⟨fun f => f, hb⟩))) (by rw [cnt_one]; exact hn)
  rw [cnt_one, dep_one, hcn, hdn] at hs
  have HS := Lib.hid hs
  have HT := Lib.hid t0
  rw [hcn]
  unfold ndV at hload ⊢
  simp only [BN.kd, BN.nm, ndC] at hload hW0 ⊢
  have HW0 := Lib.hid hW0
  have HSZ := Lib.hid hsz0
  clear h hn hbx hcn hdn hs t0 hW0 hsz0
  go_enter Try.func22, Try.ntmps22
  go_wp2_with fail
  rw [HW0.out, hload]
  go_wp2_with fail
  refine HS.out.mono ?_
  rintro r w4 ⟨rfl, t4⟩
  have HT4 := Lib.hid ((HT.out.alloc _).same t4)
  clear t4
  go_wp2
  go_ret
  exact ⟨rfl, HT4.out⟩
theorem depth_any {w : World} {d : Nat} {n : BN} {u : Value} {Q : Nat → Prop} (h : KL w Q d n.ks u) (hn : n.tt.cnt ≤ 2147483647) :
    Calls Try.prog 23 #[ndV n u] w fun e w' => e = .returned (.int .i64 (n.tt.dep : Int)) ∧ Touch NoB w w' := by
  obtain ⟨k, s, ks⟩ := n
  simp only [BN.ks] at h
  obtain ⟨W0, hW0⟩ : ∃ W0, w.alloc (.cells (ndC k s u).toArray 30) = W0 := ⟨_, rfl⟩
  have t0 : Touch NoB w W0 := hW0 ▸ (Touch.refl NoB w).alloc _
  have hbx : BxAt W0 w.heap.size k s u := hW0 ▸ BxAt.new (mk_blk w _ _ rfl)
  have hload := hbx.load
  have hsz0 : W0.heap.size = w.heap.size + 1 := hW0 ▸ (by simp)
  obtain ⟨cn, hcn⟩ : ∃ cn, (BN.mk k s ks).tt.cnt = cn := ⟨_, rfl⟩
  obtain ⟨dn, hdn⟩ : ∃ dn, (BN.mk k s ks).tt.dep = dn := ⟨_, rfl⟩
  have hs := sizen_any (c := 1) (lk_one (w := W0.alloc (.cells (ndC k s u).toArray 30)) (k := k) (s := s) (mk_blk W0 _ _ rfl) (h.via (t0.alloc _) (fun b hb => ⟨fun f => f, hb⟩))) (by rw [cnt_one]; exact hn)
  rw [cnt_one, dep_one, hcn, hdn] at hs
  have HS := Lib.hid hs
  have HT := Lib.hid t0
  rw [hdn]
  unfold ndV at hload ⊢
  simp only [BN.kd, BN.nm, ndC] at hload hW0 ⊢
  have HW0 := Lib.hid hW0
  have HSZ := Lib.hid hsz0
  clear h hn hbx hcn hdn hs t0 hW0 hsz0
  go_enter Try.func23, Try.ntmps23
  go_wp2_with fail
  rw [HW0.out, hload]
  go_wp2_with fail
  refine HS.out.mono ?_
  rintro r w4 ⟨rfl, t4⟩
  have HT4 := Lib.hid ((HT.out.alloc _).same t4)
  clear t4
  go_wp2
  go_ret
  exact ⟨rfl, HT4.out⟩
end Go.Proofs.Ytfpeennegmlcpaa
