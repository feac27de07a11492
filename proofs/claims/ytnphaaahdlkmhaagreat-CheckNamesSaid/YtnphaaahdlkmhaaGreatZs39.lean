/-
  Package check's expand over any node. Conditions: those that each theorem names.
-/
import Derived.Test.YtnphaaahdlkmhaaGreatZs38
section
namespace Go.Proofs.YtnphaaahdlkmhaaGreat
open Go.ChangeShapes Go.WideShapes Go.ChangeAt Go.RowKit Go.Maps
set_option maxRecDepth 100000
set_option maxHeartbeats 4000000

/-- What the loop over the Kids carries. -/
def XpSt (cb kb rb db nb : Nat) (vs : List Value) (ts : List Tr) (rs : List (ByteArray × Value)) (Q : Nat → Prop) (g : Nd → Nat → Option (Int × Nat)) (l : List Nd) (X : Int × Nat) (d q1 q2 q3 : Nat) (i k : Nat) (W : World) : Prop :=
  k ≤ 4000 ∧ epK g (l.drop i) k = some X ∧ W.heap[nb]? = some (.cells #[.int .i64 (k : Int)] 3 (0, 0)) ∧ US W cb kb rb db nb vs ts rs Q ∧
  W.heap[q1]? = some (.cells #[.pointer (some ⟨cb, 0, none⟩)] 105 (0, 0)) ∧ W.heap[q2]? = some (.cells #[.int .i64 (d : Int)] 3 (0, 0)) ∧ W.heap[q3]? = some (.cells #[.pointer (some ⟨nb, 0, none⟩)] 116 (0, 0))
theorem exp_kids {cb kb rb db nb : Nat} {vs : List Value} {ts : List Tr} {rs : List (ByteArray × Value)} {Q : Nat → Prop} {f : Nat} (ih : ExpOk cb kb rb db nb vs ts rs Q f)
    (l : List Nd) (d k : Nat) (X : Int × Nat) (hX : epK (fun y k => epF (findR ts) f y (d + 1) k) l k = some X) (hf : ∀ y ∈ l, ∃ g, ndFit g y = true) (hts : ∀ t ∈ ts, ∃ g, ndFit g t.root = true) (hd : d ≤ 40) (hk : k ≤ 4000)
    (w : World) (D : Nat) (A : Option Addr) (n cap : Nat) (xs : List Value) (q1 q2 q3 : Nat) (hn : l.length = n) (hn2 : n ≤ 1000) (hS : SlAt w Q (.slice A n cap) n xs) (hL : LsAt (NT w Q D) l xs)
    (hU : US w cb kb rb db nb vs ts rs Q) (hN : w.heap[nb]? = some (.cells #[.int .i64 (k : Int)] 3 (0, 0)))
    (h1 : w.heap[q1]? = some (.cells #[.pointer (some ⟨cb, 0, none⟩)] 105 (0, 0))) (h2 : w.heap[q2]? = some (.cells #[.int .i64 (d : Int)] 3 (0, 0))) (h3 : w.heap[q3]? = some (.cells #[.pointer (some ⟨nb, 0, none⟩)] 116 (0, 0))) (n1 : q1 ≠ nb) (n2 : q2 ≠ nb) (n3 : q3 ≠ nb) :
    Calls Tryz.prog 73 #[.slice A n cap, .func (.func 76) #[] #[.pointer (some ⟨q1, 0, none⟩), .pointer (some ⟨q2, 0, none⟩), .pointer (some ⟨q3, 0, none⟩)]] w fun e w' => e = .returned (.int .i64 X.1) ∧ w'.heap[nb]? = some (.cells #[.int .i64 (X.2 : Int)] 3 (0, 0)) ∧ Touch (fun b => b = nb) w w' := by
  have e0 : ∀ (args : Array Value) (w : World), (callFunc 76 args).run Tryz.prog w = .ok (.enter 76 args) w := enters_of Tryz.func76 (by kernel_rfl) rfl
  refine (firstnode_gen (σ := Nat) (Q := Q) (F := fun b => b = nb) (P := fun i k W => XpSt cb kb rb db nb vs ts rs Q (fun y k => epF (findR ts) f y (d + 1) k) l X d q1 q2 q3 i k W) (Fin := fun r W => X.1 = r ∧ W.heap[nb]? = some (.cells #[.int .i64 (X.2 : Int)] 3 (0, 0))) l A n cap D xs w e0 hn (by omega) hS hL hU.hQ ?_ ?_ ?_ k ⟨hk, hX, hN, hU, h1, h2, h3⟩).mono ?_
  · rintro i s W W' ⟨a1, a2, a3, a4, a5, a6, a7⟩ t
    exact ⟨a1, a2, (t.block _ (blk_lt a3) (fun f => f)).trans a3, a4.touch (t.mono (fun b f => f.elim)), (t.block _ (blk_lt a5) (fun f => f)).trans a5, (t.block _ (blk_lt a6) (fun f => f)).trans a6, (t.block _ (blk_lt a7) (fun f => f)).trans a7⟩
  · rintro i y s W D e0 e1 e2 B m c A1 c1 A2 c2 us zs hy hT ⟨a1, a2, a3, a4, a5, a6, a7⟩ hC
    rw [drop13_at hy] at a2
    simp only [epK] at a2
    cases hg : epF (findR ts) f y (d + 1) s with
    | none => rw [hg] at a2; cases a2
    | some p =>
      obtain ⟨e, k2⟩ := p
      rw [hg] at a2
      simp only at a2
      refine (expand1_any ih y d s (e, k2) hg (hf y (List.mem_of_getElem? hy)) hts hd a1 W D e0 e1 e2 B m c A1 c1 A2 c2 us zs q1 q2 q3 a4 a3 hC a5 a6 a7).mono ?_
      rintro e' w' ⟨rfl, hN', hT'⟩
      refine ⟨e, rfl, hT', fun h0 => ⟨k2, ?_⟩, fun hne => ?_⟩
      · subst h0
        rw [if_pos rfl] at a2
        exact ⟨epF_le f y (d + 1) s k2 hg a1, a2, hN', a4.touch hT', (hT'.block _ (blk_lt a5) n1).trans a5, (hT'.block _ (blk_lt a6) n2).trans a6, (hT'.block _ (blk_lt a7) n3).trans a7⟩
      · rw [if_neg hne] at a2
        injection a2 with a2
        subst a2
        exact ⟨rfl, hN'⟩
  · rintro s W ⟨a1, a2, a3, -⟩
    rw [List.drop_of_length_le (by omega)] at a2
    simp only [epK, Option.some.injEq] at a2
    subst a2
    exact ⟨rfl, a3⟩
  · rintro e w' ⟨r, rfl, ⟨rfl, hN'⟩, hT⟩
    exact ⟨rfl, hN', hT⟩
theorem exp_else {cb kb rb db nb : Nat} {vs : List Value} {ts : List Tr} {rs : List (ByteArray × Value)} {Q : Nat → Prop} {f : Nat} (ih : ExpOk cb kb rb db nb vs ts rs Q f)
    (n : Nd) (d k : Nat) (X : Int × Nat) (h10 : n.kd ≠ 10) (hX : epF (findR ts) (f + 1) n d k = some X) (hf : ∃ g, ndFit g n = true) (hts : ∀ t ∈ ts, ∃ g, ndFit g t.root = true) (hd : d ≤ 41) (hk : k ≤ 4000)
    (w : World) (D : Nat) (e0 e1 : Int) (e2 : ByteArray) (A : Option Addr) (m c : Nat) (A1 : Option Addr) (c1 : Nat) (A2 : Option Addr) (c2 : Nat) (xs ys : List Value)
    (hU : US w cb kb rb db nb vs ts rs Q) (hN : w.heap[nb]? = some (.cells #[.int .i64 (k : Int)] 3 (0, 0))) (hC : NdC w Q D n e0 e1 e2 A m c A1 c1 A2 c2 xs ys) :
    Calls Tryz.prog 52 #[.pointer (some ⟨cb, 0, none⟩), .agg (ndA n e0 e1 e2 A m c A1 c1 A2 c2), .int .i64 (d : Int), .pointer (some ⟨nb, 0, none⟩)] w fun e w' => e = .returned (.int .i64 X.1) ∧ w'.heap[nb]? = some (.cells #[.int .i64 (X.2 : Int)] 3 (0, 0)) ∧ Touch (fun b => b = nb) w w' := by
  unfold epF at hX
  rw [if_neg h10] at hX
  have hne : ((n.kd : Int) == 10) = false := by simp; omega
  have hnl : n.ks.length ≤ 16 ∧ ∀ y ∈ n.ks, ∃ g, ndFit g y = true := by
    obtain ⟨g, hg⟩ := hf
    cases g with
    | zero => simp [ndFit] at hg
    | succ g =>
      simp only [ndFit, Bool.and_eq_true, decide_eq_true_eq, Bool.or_eq_true, List.all_eq_true] at hg
      obtain ⟨⟨⟨⟨⟨⟨⟨⟨⟨f1, f2⟩, f3⟩, f4⟩, f5⟩, f6⟩, f7⟩, f8⟩, f9⟩, f10⟩ := hg
      have hm16 : mostL n.kd ≤ 16 := by unfold mostL; split <;> (try split) <;> omega
      exact ⟨by omega, fun y hy => ⟨g, f10 y hy⟩⟩
  unfold ndA ndV
  have hnb := blk_lt hN
  obtain ⟨W0, hW0⟩ : ∃ W, (((w.alloc (.cells #[.pointer (some ⟨cb, 0, none⟩)] 105)).alloc (.cells #[.int .i64 (n.kd : Int), .int .i64 (n.a : Int), .int .i64 (n.b : Int), .string (bs n.nm), .int .i64 e0, .int .i64 e1, .string e2, .slice A m c, .slice A1 n.ks.length c1, .slice A2 n.ws.length c2] 62)).alloc (.cells #[.int .i64 (d : Int)] 3)).alloc (.cells #[.pointer (some ⟨nb, 0, none⟩)] 116) = W := ⟨_, rfl⟩
  obtain ⟨t0, b0, b1, b2, b3⟩ := ex_boxes _ _ _ _ _ hW0
  have hN0 := (t0.block _ hnb (fun f => f)).trans hN
  obtain ⟨W2, hW2⟩ : ∃ W, W0.setCell ⟨nb, 0, none⟩ (.int .i64 ((k + 1 : Nat) : Int)) = W := ⟨_, rfl⟩
  have tS : Touch (fun b => b = nb) W0 W2 := by rw [← hW2]; exact (Touch.refl (fun b => b = nb) _).setCell (p := ⟨nb, 0, none⟩) (.inl rfl) _
  have t2 : Touch (fun b => b = nb) w W2 := (t0.mono (fun b f => f.elim)).same tS
  have hN2 : W2.heap[nb]? = some (.cells #[.int .i64 ((k + 1 : Nat) : Int)] 3 (0, 0)) := by rw [← hW2]; exact set_blk hN0 0 _
  have c0 := (tS.block _ (blk_lt b0) (by omega)).trans b0
  have c1' := (tS.block _ (blk_lt b1) (by omega)).trans b1
  have c2' := (tS.block _ (blk_lt b2) (by omega)).trans b2
  have c3 := (tS.block _ (blk_lt b3) (by omega)).trans b3
  have hwr : IntKind.i64.wrap ((k : Int) + 1) = ((k + 1 : Nat) : Int) := by rw [IntWalk.i64_in _ (by omega)]; simp
  have HX : Hid (d ≤ 40 → k + 1 ≤ 4000 → ∀ (h : epK (fun y k => epF (findR ts) f y (d + 1) k) n.ks (k + 1) = some X), Calls Tryz.prog 73 #[.slice A1 n.ks.length c1, .func (.func 76) #[] #[.pointer (some ⟨w.heap.size, 0, none⟩), .pointer (some ⟨w.heap.size + 1 + 1, 0, none⟩), .pointer (some ⟨w.heap.size + 1 + 1 + 1, 0, none⟩)]] W2 fun e w' => e = .returned (.int .i64 X.1) ∧ w'.heap[nb]? = some (.cells #[.int .i64 (X.2 : Int)] 3 (0, 0)) ∧ Touch (fun b => b = nb) W2 w') :=
    Lib.hid (fun h40 h4 hE => exp_kids ih n.ks d (k + 1) X hE hnl.2 hts h40 h4 W2 D A1 n.ks.length c1 xs w.heap.size (w.heap.size + 1 + 1) (w.heap.size + 1 + 1 + 1) rfl (by omega) (hC.ks.touch t2 hU.hQ) (hC.kl.mono (NT.touch t2 hU.hQ D)) (hU.touch t2) hN2 c0 c2' c3 (by omega) (by omega) (by omega))
  have HT := Lib.hid (And.intro t2 hN2)
  have k0 := cell_blk b1 0
  have k9 := blk_lt b1
  have y0 := cell_blk b3 0
  have y9 := blk_lt b3
  have o0 := cell_blk hN0 0
  have o9 := blk_lt hN0
  have of := free_blk hN0 0
  have k8 := cell_blk c1' 8
  have k9' := blk_lt c1'
  have x0 := cell_blk c2' 0
  have x9 := blk_lt c2'
  have y0' := cell_blk c3 0
  have y9' := blk_lt c3
  have o0' := cell_blk hN2 0
  have o9' := blk_lt hN2
  have HXX := Lib.hid hX
  obtain ⟨x1, x2⟩ := X
  obtain ⟨z0, hz0⟩ : ∃ z, (n.kd : Int) = z := ⟨_, rfl⟩
  obtain ⟨z8, hz8⟩ : ∃ z, n.ks.length = z := ⟨_, rfl⟩
  rw [hz0] at hne k0 hW0 ⊢
  rw [hz8] at HX k8 hW0 ⊢
  obtain ⟨kk, hkk⟩ : ∃ z, ((k + 1 : Nat) : Int) = z := ⟨_, rfl⟩
  have HKK := Lib.hid hkk
  rw [hkk] at hwr hW2 o0' HT
  clear t0 b0 b1 b2 b3 hN hN0 tS t2 hN2 c0 c1' c2' c3 hU hC hX ih hf hts h10 hz0 hz8 hkk hnl
  by_cases hd4 : 40 < d
  · have hx := HXX.out
    rw [if_pos hd4] at hx
    simp only [Option.some.injEq, Prod.mk.injEq] at hx
    obtain ⟨rfl, rfl⟩ := hx
    have hgt : decide ((40 : Int) < (d : Int)) = true := by simp; omega
    clear HX HXX hd4 hd
    go_enter Tryz.func52, Tryz.ntmps52
    go_wp2
    go_ret
    exact ⟨rfl, by rw [HKK.out]; exact HT.out.2, HT.out.1⟩
  · have hx := HXX.out
    rw [if_neg hd4] at hx
    have hgt : decide ((40 : Int) < (d : Int)) = false := by simp; omega
    by_cases hk4 : 4000 < k + 1
    · rw [if_pos hk4] at hx
      simp only [Option.some.injEq, Prod.mk.injEq] at hx
      obtain ⟨rfl, rfl⟩ := hx
      have hgk : decide ((4000 : Int) < kk) = true := by rw [← HKK.out]; simp; omega
      clear HX HXX hd4 hd hk4
      go_enter Tryz.func52, Tryz.ntmps52
      go_wp2
      go_ret
      exact ⟨rfl, by rw [HKK.out]; exact HT.out.2, HT.out.1⟩
    · rw [if_neg hk4] at hx
      have hgk : decide ((4000 : Int) < kk) = false := by rw [← HKK.out]; simp; omega
      have HF := Lib.hid (HX.out (by omega) (by omega) hx)
      clear HX HXX hd4 hd hk4 hx hk
      go_enter Tryz.func52, Tryz.ntmps52
      go_wp2_with fail
      refine HF.out.mono ?_
      rintro r w3 ⟨rfl, hN3, hT3⟩
      have HT3 := Lib.hid (And.intro hN3 (HT.out.1.same hT3))
      clear hN3 hT3
      go_wp2
      go_ret
      exact ⟨rfl, HT3.out.1, HT3.out.2⟩
theorem exp_all {cb kb rb db nb : Nat} {vs : List Value} {ts : List Tr} {rs : List (ByteArray × Value)} {Q : Nat → Prop} : ∀ f : Nat, ExpOk cb kb rb db nb vs ts rs Q f
  | 0, n, d, k, X, hX => by simp [epF] at hX
  | f + 1, n, d, k, X, hX => by
    intro hf hts hd hk w D e0 e1 e2 A m c A1 c1 A2 c2 xs ys hU hN hC
    by_cases h10 : n.kd = 10
    · have hX2 := hX
      unfold epF at hX2
      rw [if_pos h10] at hX2
      cases hr : findR ts n.nm with
      | none => rw [hr] at hX2; cases hX2
      | some r =>
        rw [hr] at hX2
        simp only at hX2
        obtain ⟨D2, zs, hfn, hnt⟩ := hU.rs.find n.nm r hr
        have hfr : ∃ g, ndFit g r = true := by
          have : ∃ t ∈ ts, t.root = r := by
            clear hX hX2 hU hN hC hfn hnt hts
            induction ts with
            | nil => cases hr
            | cons t l ih =>
              have hr2 : (if eqG (bs t.nm) (bs n.nm) = true then some t.root else findR l n.nm) = some r := hr
              split at hr2
              · injection hr2 with hr2; exact ⟨t, by simp, hr2⟩
              · obtain ⟨t', h1, h2⟩ := ih hr2; exact ⟨t', List.mem_cons_of_mem _ h1, h2⟩
          obtain ⟨t, ht, rfl⟩ := this
          exact hts t ht
        have hsz : (bs n.nm).size ≤ 9223372036854775807 := by
          obtain ⟨g, hg⟩ := hf
          cases g with
          | zero => simp [ndFit] at hg
          | succ g =>
            simp only [ndFit, Bool.and_eq_true, decide_eq_true_eq, Bool.or_eq_true, List.all_eq_true] at hg
            rw [bs_size]
            have := hg.1.1.1.2
            omega
        cases D2 with
        | zero => exact hnt.elim
        | succ D2 =>
          obtain ⟨f0, f1, f2, B, m', c', B1, d1, B2, d2, us, vs', he, hCr⟩ := nt_open hnt
          rw [he] at hfn
          unfold ndA at hfn ⊢
          rw [h10]
          refine exp_use (X := X) _ _ _ _ _ _ _ _ _ _ _ _ _ _ _ _ _ _ _ _ _ _ _ _ _ _ _ _ _ _ _ (blk_lt hN) hsz hU (by rw [hfn]; rfl) (fun W t => ?_)
          exact exp_all f r d k X hX2 hfr hts hd hk W D2 f0 f1 f2 B m' c' B1 d1 B2 d2 us vs' (hU.touch (t.mono (fun b f => f.elim))) ((t.block _ (blk_lt hN) (fun f => f)).trans hN) (hCr.touch t (fun b _ f => f))
    · exact exp_else (exp_all f) n d k X h10 hX hf hts hd hk w D e0 e1 e2 A m c A1 c1 A2 c2 xs ys hU hN hC
end Go.Proofs.YtnphaaahdlkmhaaGreat
end
/-
  Package check's uses over any node. Conditions: those that each theorem names.
-/
section
namespace Go.Proofs.YtnphaaahdlkmhaaGreat
open Go.ChangeShapes Go.WideShapes Go.ChangeAt Go.RowKit Go.Maps
set_option maxRecDepth 100000
set_option maxHeartbeats 4000000

theorem us_boxes (w : World) (v0 : Value) (nd : Array Value) (v2 v3 : Value) {W : World} (hW : (((w.alloc (.cells #[v0] 105)).alloc (.cells nd 62)).alloc (.cells #[v2] 9)).alloc (.cells #[v3] 78) = W) :
    Touch NoB w W ∧ W.heap[w.heap.size]? = some (.cells #[v0] 105 (0, 0)) ∧ W.heap[w.heap.size + 1]? = some (.cells nd 62 (0, 0)) ∧ W.heap[w.heap.size + 1 + 1]? = some (.cells #[v2] 9 (0, 0)) ∧ W.heap[w.heap.size + 1 + 1 + 1]? = some (.cells #[v3] 78 (0, 0)) := by
  subst hW
  have e1 : (w.alloc (.cells #[v0] 105)).heap.size = w.heap.size + 1 := by simp only [World.size_alloc]
  have e2 : ((w.alloc (.cells #[v0] 105)).alloc (.cells nd 62)).heap.size = w.heap.size + 1 + 1 := by simp only [World.size_alloc]
  have e3 : (((w.alloc (.cells #[v0] 105)).alloc (.cells nd 62)).alloc (.cells #[v2] 9)).heap.size = w.heap.size + 1 + 1 + 1 := by simp only [World.size_alloc]
  refine ⟨((((Touch.refl _ _).alloc _).alloc _).alloc _).alloc _, ?_, ?_, ?_, alloc_blk _ _ _ e3⟩
  · exact (((((Touch.refl NoB _).alloc _).alloc _).alloc _).block _ (by rw [e1]; omega) (fun f => f)).trans (alloc_blk _ _ _ rfl)
  · exact ((((Touch.refl NoB _).alloc _).alloc _).block _ (by rw [e2]; omega) (fun f => f)).trans (alloc_blk _ _ _ e1)
  · exact (((Touch.refl NoB _).alloc _).block _ (by rw [e3]; omega) (fun f => f)).trans (alloc_blk _ _ _ e2)
end Go.Proofs.YtnphaaahdlkmhaaGreat
end
