/-
  What package tree's node does with a parser in memory, from its label begin on, and as a whole. Conditions: the table of levels can be read; names and numbers among the tokens are such; an end's token lies at or behind the place.
-/
import Derived.Test.YtanecdpcenkoeaaDoorZar7
import Derived.Test.YtanecdpcenkoeaaDoorZa3
import Derived.Test.YtanecdpcenkoeaaDoorZar5
namespace Go.Proofs.YtanecdpcenkoeaaDoor
open Go.ChangeShapes Go.WideShapes Go.ChangeAt Go.RowKit
set_option maxRecDepth 100000
set_option maxHeartbeats 8000000

theorem setL_size {g : Nat} : ∀ (l : List Value) (i : Nat) (w : World), (setL w g i l).heap.size = w.heap.size
  | [], _, _ => rfl
  | v :: l, i, w => by unfold setL; rw [setL_size l (i + 1) _]; simp
/-- A head has been read and stored. -/
theorem NS.head {w w2 w3 : World} {gp q3 : Nat} {φ : Nat → Nat} {op : List Nd} {sv : Value} {cs : List Value} {kd na nb : Nat} {nm : Bs} {ex : Ex} {e0 e1 : Int} {e2 : ByteArray} {A : Option Addr} {m c : Nat} {v0 v1 v2 v3 v4 v5 v6 v7 v8 v9 : Value} (h : NS w w2 gp q3 φ op sv cs) (t : Touch (AtB gp) w2 w3) (hgp : gp < w.heap.size) (hq : w.heap.size < q3)
    (hbk : NB w2 q3 v0 v1 v2 v3 v4 v5 v6 v7 v8 v9) (het : ET w3 (fun b => w2.heap.size ≤ b) ex e0 e1 e2 A m c) :
    ∃ ψ, NC w (setL w3 q3 0 [.int .i64 (kd : Int), .int .i64 (na : Int), .int .i64 (nb : Int), .string (bs nm), .int .i64 e0, .int .i64 e1, .string e2, .slice A m c, .slice none 0 0, .slice none 0 0]) gp q3 ψ op sv cs (.mk kd na nb nm ex [] []) e0 e1 e2 A m c (.slice none 0 0) (.slice none 0 0) 0 [] [] := by
  have hb2 := blk_lt h.b2
  have hq2 := blk_lt hbk
  have h3 := h.free (b := q3) (.inr (.inl rfl))
  have p2 : ∀ k, widL φ w2.heap.size w3.heap.size k ≠ 0 → w.heap.size < k ∧ k < w3.heap.size ∧ k ≠ q3 := by
    intro k hk
    rcases widL_no hk with z | ⟨z1, z2⟩
    · have := h.hφ k z
      have := t.size
      omega
    · exact ⟨by omega, z2, by omega⟩
  have hl := (h.go t hgp).label (fun b hb => widL_old (a := w2.heap.size) (b := w3.heap.size) hb) p2
  have h4 : widL φ w2.heap.size w3.heap.size q3 = 0 := by
    by_cases e : widL φ w2.heap.size w3.heap.size q3 = 0
    · exact e
    · exact absurd rfl (p2 q3 e).2.2
  have tS : Touch (fun b => b = q3) w3 (setL w3 q3 0 [.int .i64 (kd : Int), .int .i64 (na : Int), .int .i64 (nb : Int), .string (bs nm), .int .i64 e0, .int .i64 e1, .string e2, .slice A m c, .slice none 0 0, .slice none 0 0]) := setL_touch _ _ _
  have hb3 := (hbk.go t (by omega)).setL (.int .i64 (kd : Int)) (.int .i64 (na : Int)) (.int .i64 (nb : Int)) (.string (bs nm)) (.int .i64 e0) (.int .i64 e1) (.string e2) (.slice A m c) (.slice none 0 0) (.slice none 0 0)
  refine ⟨_, hl.touch tS (fun b hb => by subst hb; exact ⟨by omega, by omega, by omega, fun i _ => ⟨by omega, by omega⟩⟩) (fun b hb => .inr (by omega)), hb3, ?_⟩
  refine ⟨?_, World.ownsRow_nil _ _ _ _, .nil, World.ownsRow_nil _ _ _ _, .nil, fun b hb => by simp [Value.ownBlock] at hb, fun b hb => by simp [Value.ownBlock] at hb⟩
  refine (het.far tS (fun b hb e => by have := hb; omega)).via (fun b hb hlt => ?_)
  have hlt3 : b < w3.heap.size := by rw [show (setL w3 q3 0 [.int .i64 (kd : Int), .int .i64 (na : Int), .int .i64 (nb : Int), .string (bs nm), .int .i64 e0, .int .i64 e1, .string e2, .slice A m c, .slice none 0 0, .slice none 0 0]).heap.size = w3.heap.size from setL_size _ _ _] at hlt; exact hlt
  exact widL_new (h.free (.inr (.inr hb))) hb hlt3
theorem node_begin {w wr : World} {gp g n cp q3 B L f M : Nat} {ts : List Tk} {R0 : Nd × St} {σ : St} {φ : Nat → Nat} {op : List Nd} {sv : Value} {cs : List Value} {v0 v1 v2 v3 v4 v5 v6 v7 v8 v9 : Value} {u1 u5 u6 u7 u8 u9 u10 u11 u12 u13 u14 u15 u16 u17 u18 u19 u20 u21 u22 u23 u24 u25 u26 u27 u28 u29 u30 u31 u32 u33 u34 u35 u36 u37 u38 u39 u40 u41 u42 u43 u44 u45 u46 u47 u48 u49 u50 u51 u52 u53 u54 u55 u56 u57 u58 u59 u60 u61 u62 u63 u64 u65 u66 u67 u68 u69 u70 : Value} (hok : NamesOk ts) (hnk : NumsOk ts) (hv : LV w B) (hB : B ≤ gp) (hE : EnT ts L) (hgp : gp < w.heap.size) (hgl : g < w.heap.size) (hq : w.heap.size < q3) (hM : f ≤ M)
    (hN : NS w wr gp q3 φ op sv cs) (hnb : NB wr q3 v0 v1 v2 v3 v4 v5 v6 v7 v8 v9) (hp : PS2 59 wr gp g n cp ts σ) (md : nodR ts f op none σ = R0) (fu : FuB f L op.length σ) (hL : σ.1 ≤ L) (hbd : NBd f op) :
    (nodX 0).wp Tryd.prog (hop (fun l a w' => ∃ n', n' < M ∧ NJ w gp g n cp q3 L ts R0 n' l a w') (bodyPost Tryd.prog Tryd.f71 (NodPost w gp g n cp ts R0.1 R0.2))) ⟨#[.pointer (some ⟨gp, 0, none⟩), u1, .pointer (some ⟨w.heap.size, 0, none⟩), sv, .pointer (some ⟨q3, 0, none⟩), u5, u6, u7, u8, u9, u10, u11, u12, u13, u14, u15, u16, u17, u18, u19, u20, u21, u22, u23, u24, u25, u26, u27, u28, u29, u30, u31, u32, u33, u34, u35, u36, u37, u38, u39, u40, u41, u42, u43, u44, u45, u46, u47, u48, u49, u50, u51, u52, u53, u54, u55, u56, u57, u58, u59, u60, u61, u62, u63, u64, u65, u66, u67, u68, u69, u70], []⟩ wr := by
  obtain ⟨f', rfl, md', fu', hL'⟩ := nod_begin hE hL md fu
  obtain ⟨svA, svc, rfl, hsv1, hsv2⟩ := row_any hN.rs
  obtain ⟨s0, hs0⟩ : ∃ z, begS op σ = z := ⟨_, rfl⟩
  rw [hs0] at md' fu' hL'
  have HH := Lib.hid (fun (W : World) (q : PS2 59 W gp g n cp ts s0) (hv : LV W B) => head_st hok hnk hv hB q)
  unfold HdPost at HH
  have HBH := Lib.hid (fun (V : World) (ψ : Nat → Nat) (e0 e1 : Int) (e2 : ByteArray) (A : Option Addr) (m c : Nat) (hNC : NC w V gp q3 ψ op (.slice svA op.length svc) cs (headN ts s0) e0 e1 e2 A m c (.slice none 0 0) (.slice none 0 0) 0 [] []) (hp : PS2 59 V gp g n cp ts (headS ts s0)) (u1 u5 u6 u7 u8 u9 u10 u11 u12 u13 u14 u15 u16 u17 u18 u19 u20 u21 u22 u23 u24 u25 u26 u27 u28 u29 u30 u31 u32 u33 u34 u35 u36 u37 u38 u39 u40 u41 u42 u43 u44 u45 u46 u47 u48 u49 u50 u51 u52 u53 u54 u55 u56 u57 u58 u59 u60 u61 u62 u63 u64 u65 u66 u67 u68 u69 u70 : Value) =>
    (node_behind hok hnk hv hB hE hgp hgl hq (Nat.le_trans (Nat.le_succ f') hM) hNC hp md' fu' hL' (hbd.down (Nat.le_succ f')) (headK_le ts s0) (by have := hbd.ln; show 0 + 0 + f' ≤ 700000; omega) : (nodX 1).wp Tryd.prog _ ⟨#[.pointer (some ⟨gp, 0, none⟩), u1, .pointer (some ⟨w.heap.size, 0, none⟩), .slice svA op.length svc, .pointer (some ⟨q3, 0, none⟩), u5, u6, u7, u8, u9, u10, u11, u12, u13, u14, u15, u16, u17, u18, u19, u20, u21, u22, u23, u24, u25, u26, u27, u28, u29, u30, u31, u32, u33, u34, u35, u36, u37, u38, u39, u40, u41, u42, u43, u44, u45, u46, u47, u48, u49, u50, u51, u52, u53, u54, u55, u56, u57, u58, u59, u60, u61, u62, u63, u64, u65, u66, u67, u68, u69, u70], []⟩ V))
  have HF := Lib.hid (fail_st hp 4)
  have hsF : op.length = 40 → failS 4 σ = s0 := fun e => by rw [← hs0]; unfold begS; rw [if_pos e]
  have hsN : op.length ≠ 40 → σ = s0 := fun e => by rw [← hs0]; unfold begS; rw [if_neg e]
  have HN := Lib.hid hN
  have HNB := Lib.hid hnb
  have HP := Lib.hid hp
  have HV := Lib.hid (And.intro hv hB)
  have hq2 := blk_lt hnb
  simp only [nodX, nodC, Tryd.f71, findLabel, Nat.reduceBEq, if_true]
  have E := Eq.refl (nodX 1)
  conv at E => rhs; simp only [nodX, nodC, Tryd.f71, findLabel, Nat.reduceBEq, Bool.false_eq_true, if_true, if_false]
  rw [← E]
  clear E
  clear md' fu' hL' hok hnk hv hB hE hN hnb hp md fu hL hbd hs0
  by_cases h40 : op.length = 40
  · have hl40 : ((op.length : Int) == 40) = true := by rw [h40]; rfl
    have hsf := hsF h40
    rw [hsf] at HF
    clear hsF hsN h40
    go_wp2_with fail
    refine HF.out.mono ?_
    rintro x w2 ⟨rfl, hp, hT⟩
    have HN := Lib.hid (HN.out.go hT hgp)
    have HNB := Lib.hid (HNB.out.go hT (by omega))
    have HP := Lib.hid hp
    clear hp hT
    have HC := Lib.hid (HH.out _ HP.out (HV.out.1.touchP HN.out.t HV.out.2))
    have hq4 := blk_lt HNB.out
    obtain ⟨i0, i1, i2, i3, i4, i5, i6, i7, i8, i9, il⟩ := HNB.out.cells
    go_wp2_with fail
    refine HC.out.mono ?_
    rintro x w3 ⟨e0, e1, e2, A, m, c, rfl, het, hp, hT⟩
    obtain ⟨ψ, hNC⟩ := HN.out.head (kd := headK ts s0) (na := (headV ts s0).a) (nb := (headV ts s0).b) (nm := (headV ts s0).nm) hT hgp hq HNB.out het
    have hnb3 := HNB.out.go hT (by omega)
    clear i0 i1 i2 i3 i4 i5 i6 i7 i8 i9 il
    obtain ⟨i0, i1, i2, i3, i4, i5, i6, i7, i8, i9, il⟩ := hnb3.cells
    obtain ⟨y0, y1, y2, y3, y4, y5, y6, y7, y8, y9⟩ := hnb3.free
    obtain ⟨V, hV⟩ : ∃ V, setL w3 q3 0 [.int .i64 (headK ts s0 : Int), .int .i64 ((headV ts s0).a : Int), .int .i64 ((headV ts s0).b : Int), .string (bs (headV ts s0).nm), .int .i64 e0, .int .i64 e1, .string e2, .slice A m c, .slice none 0 0, .slice none 0 0] = V := ⟨_, rfl⟩
    have hpV : PS2 59 V gp g n cp ts (headS ts s0) := by
      have tS : Touch (fun b => b = q3) w3 V := by rw [← hV]; exact setL_touch _ _ _
      exact hp.touchX2 tS (fun e => by omega) (fun e => by omega)
    rw [hV] at hNC
    have HX := Lib.hid (And.intro hNC hpV)
    clear hNC hpV hp hT het hnb3
    simp only [setL] at hV
    go_wp2
    refine wp_label ?_
    rename_i hgo
    exact hgo _ _ (HBH.out V ψ e0 e1 e2 A m c HX.out.1 HX.out.2 _ _ _ _ _ _ _ _ _ _ _ _ _ _ _ _ _ _ _ _ _ _ _ _ _ _ _ _ _ _ _ _ _ _ _ _ _ _ _ _ _ _ _ _ _ _ _ _ _ _ _ _ _ _ _ _ _ _ _ _ _ _ _ _ _ _ _)
  · have hl40 : ((op.length : Int) == 40) = false := by simp; omega
    have hsf := hsN h40
    rw [hsf] at HP
    clear hsF hsN h40 HF
    obtain ⟨w2, hw2⟩ : ∃ z, wr = z := ⟨_, rfl⟩
    subst hw2
    have HC := Lib.hid (HH.out _ HP.out (HV.out.1.touchP HN.out.t HV.out.2))
    have hq4 := blk_lt HNB.out
    obtain ⟨i0, i1, i2, i3, i4, i5, i6, i7, i8, i9, il⟩ := HNB.out.cells
    go_wp2_with fail
    refine HC.out.mono ?_
    rintro x w3 ⟨e0, e1, e2, A, m, c, rfl, het, hp, hT⟩
    obtain ⟨ψ, hNC⟩ := HN.out.head (kd := headK ts s0) (na := (headV ts s0).a) (nb := (headV ts s0).b) (nm := (headV ts s0).nm) hT hgp hq HNB.out het
    have hnb3 := HNB.out.go hT (by omega)
    clear i0 i1 i2 i3 i4 i5 i6 i7 i8 i9 il
    obtain ⟨i0, i1, i2, i3, i4, i5, i6, i7, i8, i9, il⟩ := hnb3.cells
    obtain ⟨y0, y1, y2, y3, y4, y5, y6, y7, y8, y9⟩ := hnb3.free
    obtain ⟨V, hV⟩ : ∃ V, setL w3 q3 0 [.int .i64 (headK ts s0 : Int), .int .i64 ((headV ts s0).a : Int), .int .i64 ((headV ts s0).b : Int), .string (bs (headV ts s0).nm), .int .i64 e0, .int .i64 e1, .string e2, .slice A m c, .slice none 0 0, .slice none 0 0] = V := ⟨_, rfl⟩
    have hpV : PS2 59 V gp g n cp ts (headS ts s0) := by
      have tS : Touch (fun b => b = q3) w3 V := by rw [← hV]; exact setL_touch _ _ _
      exact hp.touchX2 tS (fun e => by omega) (fun e => by omega)
    rw [hV] at hNC
    have HX := Lib.hid (And.intro hNC hpV)
    clear hNC hpV hp hT het hnb3
    simp only [setL] at hV
    go_wp2
    refine wp_label ?_
    rename_i hgo
    exact hgo _ _ (HBH.out V ψ e0 e1 e2 A m c HX.out.1 HX.out.2 _ _ _ _ _ _ _ _ _ _ _ _ _ _ _ _ _ _ _ _ _ _ _ _ _ _ _ _ _ _ _ _ _ _ _ _ _ _ _ _ _ _ _ _ _ _ _ _ _ _ _ _ _ _ _ _ _ _ _ _ _ _ _ _ _ _ _)
/-- What package tree's node does. -/
theorem node_any {w : World} {gp g n cp B L : Nat} {ts : List Tk} {σ : St} (hok : NamesOk ts) (hnk : NumsOk ts) (hv : LV w B) (hB : B ≤ gp) (hE : EnT ts L) (hL : σ.1 ≤ L) (h : PS2 59 w gp g n cp ts σ) :
    Calls Tryd.prog 71 #[.pointer (some ⟨gp, 0, none⟩)] w (NodPost w gp g n cp ts (nodG ts σ).1 (nodG ts σ).2) := by
  have hgp := blk_lt h.blk
  have hgl := h.tl.lt
  have hLl : L < ts.length := by obtain ⟨t, ht, -⟩ := hE; exact (List.getElem?_eq_some_iff.1 ht).1
  have hsm := h.small
  have hln := h.len
  obtain ⟨R0, hR0⟩ : ∃ z, nodG ts σ = z := ⟨_, rfl⟩
  rw [hR0]
  unfold nodG at hR0
  have H := Lib.hid h
  have HK := Lib.hid (And.intro hok (And.intro hnk (And.intro hv (And.intro hB (And.intro hE (And.intro hL hR0))))))
  clear h hok hnk hv hB hE hL hR0
  go_enter Tryd.func71, Tryd.ntmps71
  go_wp2
  refine scope_fuel (Q := bodyPost Tryd.prog Tryd.f71 (NodPost w gp g n cp ts R0.1 R0.2)) (fun l => .seq .skip (nodX l)) (fun f l a wr => NJ w gp g n cp (w.heap.size + 1) L ts R0 f l a wr) (fun f l a wr h => ?lab) ?first (fun f l a wr h => wp_seq (wp_skip ?pass))
  case lab =>
    rcases h with ⟨rfl, -⟩ | ⟨rfl, -⟩
    · exact nodX0
    · exact nodX1
  case pass =>
    obtain ⟨hok, hnk, hv, hB, hE, hL, hR0⟩ := HK.out
    rcases h with ⟨rfl, φ, op, sv, cs, τ, v0, v1, v2, v3, v4, v5, v6, v7, v8, v9, hfr, hNS, hnb, hp, md, fu, hLt, hbd⟩ | ⟨rfl, φ, op, sv, cs, τ, nd, e0, e1, e2, A, m, c, kv, wv, D, xs, ys, hfr, hNC, hp, md, fu, hLt, hbd, hkd, hsz⟩
    · have hf := frame_node hfr.len hfr.dfr
      rw [hf, hfr.s0, hfr.s2, hfr.s3, hfr.s4]
      exact node_begin hok hnk hv hB hE hgp hgl (Nat.lt_succ_self _) (Nat.le_refl _) hNS hnb hp md fu hLt hbd
    · have hf := frame_node hfr.len hfr.dfr
      rw [hf, hfr.s0, hfr.s2, hfr.s3, hfr.s4]
      exact node_behind hok hnk hv hB hE hgp hgl (Nat.lt_succ_self _) (Nat.le_refl _) hNC hp md fu hLt hbd hkd hsz
  have E := Eq.refl (nodX 0)
  conv at E => rhs; simp only [nodX, nodC, Tryd.f71, findLabel, Nat.reduceBEq, if_true]
  rw [← E]
  clear E
  obtain ⟨W1, hW1⟩ : ∃ W, (w.alloc (.cells #[.int .i64 0, .int .i64 0, .int .i64 0, .string ⟨#[]⟩, .int .i64 0, .int .i64 0, .string ⟨#[]⟩, .slice none 0 0, .slice none 0 0, .slice none 0 0] 46)).alloc (.cells #[.int .i64 0, .int .i64 0, .int .i64 0, .string ⟨#[]⟩, .int .i64 0, .int .i64 0, .string ⟨#[]⟩, .slice none 0 0, .slice none 0 0, .slice none 0 0] 46) = W := ⟨_, rfl⟩
  have t1 : Touch NoB w W1 := by rw [← hW1]; exact ((Touch.refl _ _).alloc _).alloc _
  have b2 : NB W1 w.heap.size (.int .i64 0) (.int .i64 0) (.int .i64 0) (.string ⟨#[]⟩) (.int .i64 0) (.int .i64 0) (.string ⟨#[]⟩) (.slice none 0 0) (.slice none 0 0) (.slice none 0 0) := by rw [← hW1, NB, heap_alloc_old _ _ (by simp only [World.size_alloc]; exact Nat.lt_succ_self _)]; exact NB.new w _ _ _ _ _ _ _ _ _ _ rfl
  have b3 : NB W1 (w.heap.size + 1) (.int .i64 0) (.int .i64 0) (.int .i64 0) (.string ⟨#[]⟩) (.int .i64 0) (.int .i64 0) (.string ⟨#[]⟩) (.slice none 0 0) (.slice none 0 0) (.slice none 0 0) := by rw [← hW1]; exact NB.new _ _ _ _ _ _ _ _ _ _ _ (by simp only [World.size_alloc])
  have HW := Lib.hid (And.intro t1 (And.intro b2 b3))
  clear t1 b2 b3
  go_wp2
  refine wp_label ?_
  rename_i hgo
  refine hgo _ _ ?_
  obtain ⟨hok, hnk, hv, hB, hE, hL, hR0⟩ := HK.out
  refine Go.wp_mono (node_begin (M := 6 * ts.length + 100) (φ := fun _ => 0) (op := []) (sv := .slice none 0 0) (cs := []) hok hnk hv hB hE hgp hgl (Nat.lt_succ_self _) (Nat.le_refl _) ⟨Touch.anyB HW.out.1, HW.out.2.1, World.ownsRow_nil _ _ _ _, (show StAt _ _ _ [] [] from rfl), fun b hb => by simp [Value.ownBlock] at hb, fun b hb => absurd rfl hb⟩ HW.out.2.2 (H.out.touch HW.out.1) hR0 ⟨by omega, fun _ => by simp only [List.length_nil]; omega⟩ hL ⟨by simp only [List.length_nil]; omega, fun p hp => by simp at hp, fun p hp => by simp at hp⟩) (hop_mono (fun l a w' hx => ?_))
  obtain ⟨n', -, hn'⟩ := hx
  exact ⟨n', hn'⟩
end Go.Proofs.YtanecdpcenkoeaaDoor

/-
  What stands in memory while package tree's program reads. No condition beyond those that each theorem names.
-/
namespace Go.Proofs.YtanecdpcenkoeaaDoor
open Go.ChangeShapes Go.WideShapes Go.ChangeAt Go.RowKit
set_option maxRecDepth 100000
set_option maxHeartbeats 4000000

theorem info_key' : ∃ i0, Tryd.prog.info? 83 = some i0 ∧ i0.zero = some (.agg #[.string ⟨#[]⟩, .int .i64 0, .bool false]) ∧ i0.size = 3 ∧ i0.bytes = 32 := by
  have h : (Tryd.prog.info? 83).map (fun i => (i.zero, i.size, i.bytes)) = some (some (.agg #[.string ⟨#[]⟩, .int .i64 0, .bool false]), 3, 32) := by kernel_rfl
  cases hi : Tryd.prog.info? 83 with
  | none => rw [hi] at h; cases h
  | some i0 =>
    rw [hi] at h
    simp only [Option.map_some, Option.some.injEq, Prod.mk.injEq] at h
    exact ⟨i0, rfl, h.1, h.2.1, h.2.2⟩
theorem info_dom' : ∃ i0, Tryd.prog.info? 90 = some i0 ∧ i0.zero = some (.agg #[.string ⟨#[]⟩, .slice none 0 0, .slice none 0 0, .slice none 0 0]) ∧ i0.size = 4 ∧ i0.bytes = 88 := by
  have h : (Tryd.prog.info? 90).map (fun i => (i.zero, i.size, i.bytes)) = some (some (.agg #[.string ⟨#[]⟩, .slice none 0 0, .slice none 0 0, .slice none 0 0]), 4, 88) := by kernel_rfl
  cases hi : Tryd.prog.info? 90 with
  | none => rw [hi] at h; cases h
  | some i0 =>
    rw [hi] at h
    simp only [Option.map_some, Option.some.injEq, Prod.mk.injEq] at h
    exact ⟨i0, rfl, h.1, h.2.1, h.2.2⟩
theorem info_tree' : ∃ i0, Tryd.prog.info? 52 = some i0 ∧ i0.zero = some (.agg #[.string ⟨#[]⟩, .int .i64 0, .int .i64 0, .int .i64 0, .string ⟨#[]⟩, .int .i64 0, .int .i64 0, .string ⟨#[]⟩, .slice none 0 0, .slice none 0 0, .slice none 0 0]) ∧ i0.size = 11 ∧ i0.bytes = 160 := by
  have h : (Tryd.prog.info? 52).map (fun i => (i.zero, i.size, i.bytes)) = some (some (.agg #[.string ⟨#[]⟩, .int .i64 0, .int .i64 0, .int .i64 0, .string ⟨#[]⟩, .int .i64 0, .int .i64 0, .string ⟨#[]⟩, .slice none 0 0, .slice none 0 0, .slice none 0 0]), 11, 160) := by kernel_rfl
  cases hi : Tryd.prog.info? 52 with
  | none => rw [hi] at h; cases h
  | some i0 =>
    rw [hi] at h
    simp only [Option.map_some, Option.some.injEq, Prod.mk.injEq] at h
    exact ⟨i0, rfl, h.1, h.2.1, h.2.2⟩
/-- A finished tree's eleven cells. -/
def TrAt (w : World) (Q : Nat → Prop) (t : Tr) (l : List Value) : Prop := ∃ D ys, l = .string (bs t.nm) :: ys ∧ NT w Q D t.root ys
theorem TrAt.touch {w w' : World} {Q F : Nat → Prop} {a : Tr} {l : List Value} (h : TrAt w Q a l) (t : Touch F w w') (hq : ∀ b, Q b → ¬ F b) : TrAt w' Q a l := by
  obtain ⟨D, ys, rfl, h1⟩ := h
  exact ⟨D, ys, rfl, NT.touch t hq _ _ _ h1⟩
theorem TrAt.via {w : World} {Q R : Nat → Prop} {a : Tr} {l : List Value} (h : TrAt w Q a l) (hq : ∀ b, Q b → b < w.heap.size → R b) : TrAt w R a l := by
  obtain ⟨D, ys, rfl, h1⟩ := h
  exact ⟨D, ys, rfl, NT.via hq _ _ _ h1⟩
theorem DmAt.touch {w w' : World} {Q F : Nat → Prop} {a : Dm} {l : List Value} (h : DmAt w Q a l) (t : Touch F w w') (hq : ∀ b, Q b → ¬ F b) : DmAt w' Q a l := by
  obtain ⟨v1, v2, v3, xs, rfl, h1, h2, h3, h4⟩ := h
  exact ⟨v1, v2, v3, xs, rfl, h1.touch t hq, h2.touch t hq, h3.mono (fun x ys hx => hx.touch t hq), h4.touch t hq⟩
theorem DmAt.via {w : World} {Q R : Nat → Prop} {a : Dm} {l : List Value} (h : DmAt w Q a l) (hq : ∀ b, Q b → b < w.heap.size → R b) : DmAt w R a l := by
  obtain ⟨v1, v2, v3, xs, rfl, h1, h2, h3, h4⟩ := h
  exact ⟨v1, v2, v3, xs, rfl, h1.via hq, h2.via hq, h3.mono (fun x ys hx => hx.via hq), h4.via hq⟩
/-- A program that is being read, at block q3; Q: the blocks of its finished trees and domains. -/
structure PM (w wr : World) (gp q3 : Nat) (Q : Nat → Prop) (a : List Ky) (b : List Tr) (c : List Dm) (vk vt vd : Value) (ts ds : List Value) : Prop where
  t : Touch (AtB gp) w wr
  b2 : B3 wr 28 w.heap.size (.slice none 0 0) (.slice none 0 0) (.slice none 0 0)
  b3 : B3 wr 28 q3 vk vt vd
  rk : wr.ownsRow w.heap.size 83 3 vk a.length (kyC a)
  rt : wr.ownsRow w.heap.size 52 11 vt b.length ts
  lt : LsAt (TrAt wr Q) b ts
  rd : wr.ownsRow w.heap.size 90 4 vd c.length ds
  ld : LsAt (DmAt wr Q) c ds
  hQ : ∀ k, Q k → w.heap.size < k ∧ k < wr.heap.size ∧ k ≠ q3 ∧ vk.ownBlock ≠ some k ∧ vt.ownBlock ≠ some k ∧ vd.ownBlock ≠ some k
theorem PM.go {w wr V : World} {gp q3 : Nat} {Q : Nat → Prop} {a : List Ky} {b : List Tr} {c : List Dm} {vk vt vd : Value} {ts ds : List Value} (h : PM w wr gp q3 Q a b c vk vt vd ts ds) (t : Touch (AtB gp) wr V) (hgp : gp < w.heap.size) (hsq : w.heap.size < q3) : PM w V gp q3 Q a b c vk vt vd ts ds := by
  have q : ∀ k, Q k → ¬ AtB gp k := fun k hk f => by have := (h.hQ k hk).1; unfold AtB at f; omega
  exact ⟨h.t.same t, h.b2.go t (by omega), h.b3.go t (by omega), row_go h.rk t hgp, row_go h.rt t hgp, h.lt.mono (fun x ys hx => hx.touch t q), row_go h.rd t hgp, h.ld.mono (fun x ys hx => hx.touch t q),
    fun k hk => ⟨(h.hQ k hk).1, Nat.lt_of_lt_of_le (h.hQ k hk).2.1 t.size, (h.hQ k hk).2.2⟩⟩
/-- What a call has made new is finished. -/
theorem PM.widen {w wr V : World} {gp q3 : Nat} {Q : Nat → Prop} {a : List Ky} {b : List Tr} {c : List Dm} {vk vt vd : Value} {ts ds : List Value} (h : PM w wr gp q3 Q a b c vk vt vd ts ds) (t : Touch (AtB gp) wr V) (hgp : gp < w.heap.size) (hsq : w.heap.size < q3) :
    PM w V gp q3 (fun k => Q k ∨ (wr.heap.size ≤ k ∧ k < V.heap.size)) a b c vk vt vd ts ds := by
  have h3 := h.go t hgp hsq
  have hb2 := blk_lt h.b2
  have hb3 := blk_lt h.b3
  refine ⟨h3.t, h3.b2, h3.b3, h3.rk, h3.rt, h3.lt.mono (fun x ys hx => hx.via (fun k hk _ => .inl hk)), h3.rd, h3.ld.mono (fun x ys hx => hx.via (fun k hk _ => .inl hk)), fun k hk => ?_⟩
  rcases hk with hk | ⟨h1, h2⟩
  · exact h3.hQ k hk
  · exact ⟨by omega, h2, by omega, fun e => by have := (h.rk.lt k e).2; omega, fun e => by have := (h.rt.lt k e).2; omega, fun e => by have := (h.rd.lt k e).2; omega⟩
theorem B3.goR {w w' : World} {T : TypeId} {q : Nat} {a b c v : Value} (h : B3 w T q a b c) (t : Touch (fun b => v.ownBlock = some b) w w') (hne : v.ownBlock ≠ some q) : B3 w' T q a b c := (t.block q (blk_lt h) hne).trans h
section
variable {w w3 wx : World} {gp q3 gd cap : Nat} {Q : Nat → Prop} {a : List Ky} {b : List Tr} {c : List Dm} {vk vt vd : Value} {ts ds : List Value}
theorem PM.addK {v : Ky} (h : PM w w3 gp q3 Q a b c vk vt vd ts ds) (hsq : w.heap.size < q3) (TR : Touch (fun b => vk.ownBlock = some b) w3 wx)
    (hown : wx.ownsRow w.heap.size 83 3 (.slice (some ⟨gd, 0, none⟩) (a.length + 1) cap) (a.length + 1) (kyC a ++ [.string (bs v.nm), .int .i64 (v.kd : Int), .bool v.sh])) (hat : vk.ownBlock = some gd ∨ gd = w3.heap.size + 1) :
    PM w (wx.setCell ⟨q3, 0, none⟩ (.slice (some ⟨gd, 0, none⟩) (a.length + 1) cap)) gp q3 Q (a ++ [v]) b c (.slice (some ⟨gd, 0, none⟩) (a.length + 1) cap) vt vd ts ds := by
  have hb2 := h.b2.goR TR (row_ne h.rk h.b2 (by decide))
  have hb3 := h.b3.goR TR (row_ne h.rk h.b3 (by decide))
  have rt := row_touch h.rt TR (fun k hk f => row_row_ne h.rk h.rt (by decide) f hk)
  have rd := row_touch h.rd TR (fun k hk f => row_row_ne h.rk h.rd (by decide) f hk)
  have tS := (Touch.refl (fun b => b = q3) wx).setCell (p := ⟨q3, 0, none⟩) (.inl rfl) (.slice (some ⟨gd, 0, none⟩) (a.length + 1) cap)
  refine ⟨(h.t.trans TR (fun k hk => .inr (row_base h.rk k hk))).setCell (p := ⟨q3, 0, none⟩) (.inr (by simp only; omega)) _, hb2.aside (by omega), hb3.set0 _, ?_, row_aside rt (row_ne rt hb3 (by decide)), ?_, row_aside rd (row_ne rd hb3 (by decide)), ?_, fun k hk => ?_⟩
  · rw [List.length_append, kyC_snoc]
    exact row_aside hown (row_ne hown hb3 (by decide))
  · exact h.lt.mono (fun x ys hx => (hx.touch TR (fun k hk => (h.hQ k hk).2.2.2.1)).touch tS (fun k hk => (h.hQ k hk).2.2.1))
  · exact h.ld.mono (fun x ys hx => (hx.touch TR (fun k hk => (h.hQ k hk).2.2.2.1)).touch tS (fun k hk => (h.hQ k hk).2.2.1))
  · obtain ⟨q1, q2, q3', q4, q5, q6⟩ := h.hQ k hk
    refine ⟨q1, Nat.lt_of_lt_of_le q2 (Nat.le_trans TR.size tS.size), q3', fun e => ?_, q5, q6⟩
    have e1 : gd = k := by simpa [Value.ownBlock] using e
    subst e1
    rcases hat with e | e
    · exact q4 e
    · omega
theorem PM.addT {v : Tr} {ys : List Value} (h : PM w w3 gp q3 Q a b c vk vt vd ts ds) (hsq : w.heap.size < q3) (hv : TrAt w3 Q v ys) (TR : Touch (fun b => vt.ownBlock = some b) w3 wx)
    (hown : wx.ownsRow w.heap.size 52 11 (.slice (some ⟨gd, 0, none⟩) (b.length + 1) cap) (b.length + 1) (ts ++ ys)) (hat : vt.ownBlock = some gd ∨ gd = w3.heap.size + 1) :
    PM w (wx.setCell ⟨q3, 1, none⟩ (.slice (some ⟨gd, 0, none⟩) (b.length + 1) cap)) gp q3 Q a (b ++ [v]) c vk (.slice (some ⟨gd, 0, none⟩) (b.length + 1) cap) vd (ts ++ ys) ds := by
  have hb2 := h.b2.goR TR (row_ne h.rt h.b2 (by decide))
  have hb3 := h.b3.goR TR (row_ne h.rt h.b3 (by decide))
  have rk := row_touch h.rk TR (fun k hk f => row_row_ne h.rt h.rk (by decide) f hk)
  have rd := row_touch h.rd TR (fun k hk f => row_row_ne h.rt h.rd (by decide) f hk)
  have tS := (Touch.refl (fun b => b = q3) wx).setCell (p := ⟨q3, 1, none⟩) (.inl rfl) (.slice (some ⟨gd, 0, none⟩) (b.length + 1) cap)
  refine ⟨(h.t.trans TR (fun k hk => .inr (row_base h.rt k hk))).setCell (p := ⟨q3, 1, none⟩) (.inr (by simp only; omega)) _, hb2.aside (by omega), hb3.set1 _, row_aside rk (row_ne rk hb3 (by decide)), ?_, ?_, row_aside rd (row_ne rd hb3 (by decide)), ?_, fun k hk => ?_⟩
  · rw [List.length_append]
    exact row_aside hown (row_ne hown hb3 (by decide))
  · exact (LsAt.snoc h.lt hv).mono (fun x ys hx => (hx.touch TR (fun k hk => (h.hQ k hk).2.2.2.2.1)).touch tS (fun k hk => (h.hQ k hk).2.2.1))
  · exact h.ld.mono (fun x ys hx => (hx.touch TR (fun k hk => (h.hQ k hk).2.2.2.2.1)).touch tS (fun k hk => (h.hQ k hk).2.2.1))
  · obtain ⟨q1, q2, q3', q4, q5, q6⟩ := h.hQ k hk
    refine ⟨q1, Nat.lt_of_lt_of_le q2 (Nat.le_trans TR.size tS.size), q3', q4, fun e => ?_, q6⟩
    have e1 : gd = k := by simpa [Value.ownBlock] using e
    subst e1
    rcases hat with e | e
    · exact q5 e
    · omega
theorem PM.addD {v : Dm} {ys : List Value} (h : PM w w3 gp q3 Q a b c vk vt vd ts ds) (hsq : w.heap.size < q3) (hv : DmAt w3 Q v ys) (TR : Touch (fun b => vd.ownBlock = some b) w3 wx)
    (hown : wx.ownsRow w.heap.size 90 4 (.slice (some ⟨gd, 0, none⟩) (c.length + 1) cap) (c.length + 1) (ds ++ ys)) (hat : vd.ownBlock = some gd ∨ gd = w3.heap.size + 1) :
    PM w (wx.setCell ⟨q3, 2, none⟩ (.slice (some ⟨gd, 0, none⟩) (c.length + 1) cap)) gp q3 Q a b (c ++ [v]) vk vt (.slice (some ⟨gd, 0, none⟩) (c.length + 1) cap) ts (ds ++ ys) := by
  have hb2 := h.b2.goR TR (row_ne h.rd h.b2 (by decide))
  have hb3 := h.b3.goR TR (row_ne h.rd h.b3 (by decide))
  have rk := row_touch h.rk TR (fun k hk f => row_row_ne h.rd h.rk (by decide) f hk)
  have rt := row_touch h.rt TR (fun k hk f => row_row_ne h.rd h.rt (by decide) f hk)
  have tS := (Touch.refl (fun b => b = q3) wx).setCell (p := ⟨q3, 2, none⟩) (.inl rfl) (.slice (some ⟨gd, 0, none⟩) (c.length + 1) cap)
  refine ⟨(h.t.trans TR (fun k hk => .inr (row_base h.rd k hk))).setCell (p := ⟨q3, 2, none⟩) (.inr (by simp only; omega)) _, hb2.aside (by omega), hb3.set2 _, row_aside rk (row_ne rk hb3 (by decide)), row_aside rt (row_ne rt hb3 (by decide)), ?_, ?_, ?_, fun k hk => ?_⟩
  · exact h.lt.mono (fun x ys hx => (hx.touch TR (fun k hk => (h.hQ k hk).2.2.2.2.2)).touch tS (fun k hk => (h.hQ k hk).2.2.1))
  · rw [List.length_append]
    exact row_aside hown (row_ne hown hb3 (by decide))
  · exact (LsAt.snoc h.ld hv).mono (fun x ys hx => (hx.touch TR (fun k hk => (h.hQ k hk).2.2.2.2.2)).touch tS (fun k hk => (h.hQ k hk).2.2.1))
  · obtain ⟨q1, q2, q3', q4, q5, q6⟩ := h.hQ k hk
    refine ⟨q1, Nat.lt_of_lt_of_le q2 (Nat.le_trans TR.size tS.size), q3', q4, q5, fun e => ?_⟩
    have e1 : gd = k := by simpa [Value.ownBlock] using e
    subst e1
    rcases hat with e | e
    · exact q6 e
    · omega
end
/-- A program's cells, its lists finished. -/
def PgAt (w : World) (Q : Nat → Prop) (p : Pg) (l : List Value) : Prop := ∃ v1 v2 v3 xs ys, l = [v1, v2, v3] ∧ SlAt w Q v1 p.keys.length (kyC p.keys) ∧ SlAt w Q v2 p.trees.length xs ∧ LsAt (TrAt w Q) p.trees xs ∧ SlAt w Q v3 p.doms.length ys ∧ LsAt (DmAt w Q) p.doms ys
end Go.Proofs.YtanecdpcenkoeaaDoor

/-
  What package tree's tree does with a parser in memory. Conditions: the table of levels can be read; names and numbers among the tokens are such; an end's token lies at or behind the place.
-/
namespace Go.Proofs.YtanecdpcenkoeaaDoor
open Go.ChangeShapes Go.WideShapes Go.ChangeAt Go.RowKit
set_option maxRecDepth 100000
set_option maxHeartbeats 4000000

/-- A block of eleven cells. -/
def TB (w : World) (q : Nat) (cs : Array Value) : Prop := w.heap[q]? = some (.cells cs 52 (0, 0))
theorem TB.touch {w w' : World} {F : Nat → Prop} {q : Nat} {cs : Array Value} (h : TB w q cs) (t : Touch F w w') (hq : ¬ F q) : TB w' q cs := (t.block q (blk_lt h) hq).trans h
/-- What a tree's parser leaves. -/
def TrPost (w : World) (gp g n cp : Nat) (ts : List Tk) (v : Tr) (st : St) (x : Ending) (w' : World) : Prop := ∃ (e0 e1 : Int) (e2 : ByteArray) (A : Option Addr) (m c : Nat) (kA : Option Addr) (km kc : Nat) (wA : Option Addr) (wm wc : Nat),
  x = .returned (.agg #[.string (bs v.nm), .int .i64 (v.root.kd : Int), .int .i64 (v.root.a : Int), .int .i64 (v.root.b : Int), .string (bs v.root.nm), .int .i64 e0, .int .i64 e1, .string e2, .slice A m c, .slice kA km kc, .slice wA wm wc]) ∧ TrAt w' (fun b => w.heap.size ≤ b) v [.string (bs v.nm), .int .i64 (v.root.kd : Int), .int .i64 (v.root.a : Int), .int .i64 (v.root.b : Int), .string (bs v.root.nm), .int .i64 e0, .int .i64 e1, .string e2, .slice A m c, .slice kA km kc, .slice wA wm wc] ∧ PS2 59 w' gp g n cp ts st ∧ Touch (AtB gp) w w'
theorem tree_any {w : World} {gp g n cp B L : Nat} {ts : List Tk} {σ : St} (hok : NamesOk ts) (hnk : NumsOk ts) (hv : LV w B) (hB : B ≤ gp) (hE : EnT ts L) (hL : σ.1 ≤ L) (h : PS2 59 w gp g n cp ts σ) :
    Calls Tryd.prog 32 #[.pointer (some ⟨gp, 0, none⟩)] w (TrPost w gp g n cp ts (treV ts σ) (treS ts σ)) := by
  obtain ⟨W0, hW0⟩ : ∃ W, w.alloc (.cells #[.string ⟨#[]⟩, .int .i64 0, .int .i64 0, .int .i64 0, .string ⟨#[]⟩, .int .i64 0, .int .i64 0, .string ⟨#[]⟩, .slice none 0 0, .slice none 0 0, .slice none 0 0] 52) = W := ⟨_, rfl⟩
  have t0 : Touch NoB w W0 := by rw [← hW0]; exact (Touch.refl _ _).alloc _
  have b2 : TB W0 w.heap.size #[.string ⟨#[]⟩, .int .i64 0, .int .i64 0, .int .i64 0, .string ⟨#[]⟩, .int .i64 0, .int .i64 0, .string ⟨#[]⟩, .slice none 0 0, .slice none 0 0, .slice none 0 0] := by rw [← hW0]; exact alloc_blk w _ _ rfl
  have hgp := blk_lt h.blk
  have hgl := h.tl.lt
  have hs0 : W0.heap.size = w.heap.size + 1 := by rw [← hW0]; simp only [World.size_alloc]
  have HP := Lib.hid (h.touch t0)
  have HB2 := Lib.hid b2
  have HT := Lib.hid (Touch.anyB (F := AtB gp) t0)
  have HV := Lib.hid (And.intro hv hB)
  unfold treV treS
  obtain ⟨v1, hv1⟩ : ∃ z, naV ts σ = z := ⟨_, rfl⟩
  obtain ⟨s1, hs1⟩ : ∃ z, naS ts σ = z := ⟨_, rfl⟩
  have hL1 : s1.1 ≤ L := by rw [← hs1]; exact naS_L hE hL
  have H1 := Lib.hid (fun (W : World) (q : PS2 59 W gp g n cp ts σ) => name_st q)
  simp only [hv1, hs1] at *
  obtain ⟨s2, hs2⟩ : ∃ z, exS ts [123] s1 = z := ⟨_, rfl⟩
  have hL2 : s2.1 ≤ L := by rw [← hs2]; exact exS_L hE hL1
  have H2 : Hid (∀ (W : World), PS2 59 W gp g n cp ts s1 → Calls Tryd.prog 70 #[.pointer (some ⟨gp, 0, none⟩), .string ⟨#[123]⟩] W fun x w' => x = .returned (.tuple #[]) ∧ PS2 59 w' gp g n cp ts s2 ∧ Touch (AtB gp) W w') := Lib.hid (fun W q => by rw [← hs2]; exact expect_st (s := [123]) q)
  simp only [hs2] at *
  obtain ⟨nd, hnd⟩ : ∃ z, (nodG ts s2).1 = z := ⟨_, rfl⟩
  obtain ⟨s3, hs3⟩ : ∃ z, (nodG ts s2).2 = z := ⟨_, rfl⟩
  have H3 := Lib.hid (fun (W : World) (q : PS2 59 W gp g n cp ts s2) (hv : LV W B) => node_any hok hnk hv hB hE hL2 q)
  rw [hnd, hs3] at H3
  simp only [hnd, hs3]
  obtain ⟨s4, hs4⟩ : ∃ z, exS ts [125] s3 = z := ⟨_, rfl⟩
  have H4 : Hid (∀ (W : World), PS2 59 W gp g n cp ts s3 → Calls Tryd.prog 70 #[.pointer (some ⟨gp, 0, none⟩), .string ⟨#[125]⟩] W fun x w' => x = .returned (.tuple #[]) ∧ PS2 59 w' gp g n cp ts s4 ∧ Touch (AtB gp) W w') := Lib.hid (fun W q => by rw [← hs4]; exact expect_st (s := [125]) q)
  simp only [hs4]
  obtain ⟨n1, hn1⟩ : ∃ z, bs v1 = z := ⟨_, rfl⟩
  rw [hn1] at H1
  have HC := Lib.hid (H1.out W0 HP.out)
  unfold TrPost
  clear hs4 hs3 hnd hs2 hv1 hs1 h t0 b2 hok hnk hv hB hE hL hL1 hL2
  simp only [hn1]
  go_enter Tryd.func32, Tryd.ntmps32
  go_wp2_with fail
  refine HC.out.mono ?_
  rintro r w1 ⟨rfl, hp, hT⟩
  obtain ⟨X, hX⟩ : ∃ X, w1.alloc (.cells #[.string n1, .int .i64 0, .int .i64 0, .int .i64 0, .string ⟨#[]⟩, .int .i64 0, .int .i64 0, .string ⟨#[]⟩, .slice none 0 0, .slice none 0 0, .slice none 0 0] 52) = X := ⟨_, rfl⟩
  have tx : Touch NoB w1 X := by rw [← hX]; exact (Touch.refl _ _).alloc _
  obtain ⟨q3, hq3⟩ : ∃ q3, w1.heap.size = q3 := ⟨_, rfl⟩
  have hsq : w.heap.size < q3 := by have := hT.size; omega
  have HB3 := Lib.hid (show TB X q3 #[.string n1, .int .i64 0, .int .i64 0, .int .i64 0, .string ⟨#[]⟩, .int .i64 0, .int .i64 0, .string ⟨#[]⟩, .slice none 0 0, .slice none 0 0, .slice none 0 0] by rw [← hX]; exact alloc_blk _ _ _ hq3)
  have HB2 := Lib.hid ((HB2.out.touch hT (by unfold AtB; omega)).touch tx (fun z => z))
  have HT := Lib.hid (HT.out.same (hT.same (Touch.anyB tx)))
  have HP := Lib.hid (hp.touch tx)
  clear hp hT tx
  subst hX
  have HC := Lib.hid (H2.out _ HP.out)
  go_wp2_with fail
  refine HC.out.mono ?_
  rintro r w2 ⟨rfl, hp, hT⟩
  have HB3 := Lib.hid (HB3.out.touch hT (by unfold AtB; omega))
  have HB2 := Lib.hid (HB2.out.touch hT (by unfold AtB; omega))
  have HT := Lib.hid (HT.out.same hT)
  have hq32 := blk_lt HB3.out
  have HC := Lib.hid (H3.out _ hp (HV.out.1.touchP HT.out HV.out.2))
  clear hp hT
  go_wp2_with fail
  refine HC.out.mono ?_
  rintro r w3 ⟨e0, e1, e2, A, m, c, kA, km, kc, wA, wm, wc, D, rfl, hnt, hp, hT⟩
  have HB3 := Lib.hid (HB3.out.touch hT (by unfold AtB; omega))
  have HB2 := Lib.hid (HB2.out.touch hT (by unfold AtB; omega))
  have HT := Lib.hid (HT.out.same hT)
  have HNT := Lib.hid (NT.via (R := fun b => w.heap.size < b ∧ b ≠ q3) (fun b h1 _ => ⟨by omega, by omega⟩) _ _ _ hnt)
  have HP := Lib.hid hp
  clear hp hT hnt hq32
  have hb3 : w3.heap[q3]? = _ := HB3.out
  have ⟨i0, i1, i2, i3, i4, i5, i6, i7, i8, i9, i10⟩ : w3.cell? ⟨q3, 0, none⟩ = some (.string n1) ∧ w3.cell? ⟨q3, 1, none⟩ = some (.int .i64 0) ∧ w3.cell? ⟨q3, 2, none⟩ = some (.int .i64 0) ∧ w3.cell? ⟨q3, 3, none⟩ = some (.int .i64 0) ∧ w3.cell? ⟨q3, 4, none⟩ = some (.string ⟨#[]⟩) ∧ w3.cell? ⟨q3, 5, none⟩ = some (.int .i64 0) ∧ w3.cell? ⟨q3, 6, none⟩ = some (.int .i64 0) ∧ w3.cell? ⟨q3, 7, none⟩ = some (.string ⟨#[]⟩) ∧ w3.cell? ⟨q3, 8, none⟩ = some (.slice none 0 0) ∧ w3.cell? ⟨q3, 9, none⟩ = some (.slice none 0 0) ∧ w3.cell? ⟨q3, 10, none⟩ = some (.slice none 0 0) := ⟨cell_blk hb3 0, cell_blk hb3 1, cell_blk hb3 2, cell_blk hb3 3, cell_blk hb3 4, cell_blk hb3 5, cell_blk hb3 6, cell_blk hb3 7, cell_blk hb3 8, cell_blk hb3 9, cell_blk hb3 10⟩
  have ⟨y0, y1, y2, y3, y4, y5, y6, y7, y8, y9, y10⟩ : w3.frozen? ⟨q3, 0, none⟩ = false ∧ w3.frozen? ⟨q3, 1, none⟩ = false ∧ w3.frozen? ⟨q3, 2, none⟩ = false ∧ w3.frozen? ⟨q3, 3, none⟩ = false ∧ w3.frozen? ⟨q3, 4, none⟩ = false ∧ w3.frozen? ⟨q3, 5, none⟩ = false ∧ w3.frozen? ⟨q3, 6, none⟩ = false ∧ w3.frozen? ⟨q3, 7, none⟩ = false ∧ w3.frozen? ⟨q3, 8, none⟩ = false ∧ w3.frozen? ⟨q3, 9, none⟩ = false ∧ w3.frozen? ⟨q3, 10, none⟩ = false := ⟨free_blk hb3 0, free_blk hb3 1, free_blk hb3 2, free_blk hb3 3, free_blk hb3 4, free_blk hb3 5, free_blk hb3 6, free_blk hb3 7, free_blk hb3 8, free_blk hb3 9, free_blk hb3 10⟩
  obtain ⟨V, hV⟩ : ∃ V, setL w3 q3 1 [.int .i64 (nd.kd : Int), .int .i64 (nd.a : Int), .int .i64 (nd.b : Int), .string (bs nd.nm), .int .i64 e0, .int .i64 e1, .string e2, .slice A m c, .slice kA km kc, .slice wA wm wc] = V := ⟨_, rfl⟩
  have tV : Touch (fun b => b = q3) w3 V := by rw [← hV]; exact setL_touch _ _ _
  have bV := setL_blk (t := 52) (fr := (0, 0)) [.int .i64 (nd.kd : Int), .int .i64 (nd.a : Int), .int .i64 (nd.b : Int), .string (bs nd.nm), .int .i64 e0, .int .i64 e1, .string e2, .slice A m c, .slice kA km kc, .slice wA wm wc] [.int .i64 0, .int .i64 0, .int .i64 0, .string ⟨#[]⟩, .int .i64 0, .int .i64 0, .string ⟨#[]⟩, .slice none 0 0, .slice none 0 0, .slice none 0 0] [.string n1] w3 rfl hb3
  rw [show [Value.string n1].length = 1 from rfl, hV] at bV
  simp only [setL, Nat.reduceAdd] at hV
  have HB3 := Lib.hid (show TB V q3 #[.string n1, .int .i64 (nd.kd : Int), .int .i64 (nd.a : Int), .int .i64 (nd.b : Int), .string (bs nd.nm), .int .i64 e0, .int .i64 e1, .string e2, .slice A m c, .slice kA km kc, .slice wA wm wc] from bV)
  have HB2 := Lib.hid (HB2.out.touch tV (by omega))
  have HNT := Lib.hid (NT.touch tV (fun b h1 => h1.2) _ _ _ HNT.out)
  have HP := Lib.hid (HP.out.touchX tV (by omega) (by omega))
  have HT := Lib.hid (HT.out.trans tV (fun b hb => .inr (by omega)))
  clear hb3 tV bV
  have HC := Lib.hid (H4.out _ HP.out)
  go_wp2_with fail
  refine HC.out.mono ?_
  rintro r w4 ⟨rfl, hp, hT⟩
  have HB3 := Lib.hid (HB3.out.touch hT (by unfold AtB; omega))
  have HB2 := Lib.hid (HB2.out.touch hT (by unfold AtB; omega))
  have HT := Lib.hid (HT.out.same hT)
  have HNT := Lib.hid (NT.touch hT (fun b h1 => by unfold AtB; omega) _ _ _ HNT.out)
  have HP := Lib.hid hp
  clear hp hT
  have hb3 : w4.heap[q3]? = _ := HB3.out
  have hb2 : w4.heap[w.heap.size]? = _ := HB2.out
  clear i0 i1 i2 i3 i4 i5 i6 i7 i8 i9 i10 y0 y1 y2 y3 y4 y5 y6 y7 y8 y9 y10
  have ⟨i0, i1, i2, i3, i4, i5, i6, i7, i8, i9, i10⟩ : w4.cell? ⟨q3, 0, none⟩ = some (.string n1) ∧ w4.cell? ⟨q3, 1, none⟩ = some (.int .i64 (nd.kd : Int)) ∧ w4.cell? ⟨q3, 2, none⟩ = some (.int .i64 (nd.a : Int)) ∧ w4.cell? ⟨q3, 3, none⟩ = some (.int .i64 (nd.b : Int)) ∧ w4.cell? ⟨q3, 4, none⟩ = some (.string (bs nd.nm)) ∧ w4.cell? ⟨q3, 5, none⟩ = some (.int .i64 e0) ∧ w4.cell? ⟨q3, 6, none⟩ = some (.int .i64 e1) ∧ w4.cell? ⟨q3, 7, none⟩ = some (.string e2) ∧ w4.cell? ⟨q3, 8, none⟩ = some (.slice A m c) ∧ w4.cell? ⟨q3, 9, none⟩ = some (.slice kA km kc) ∧ w4.cell? ⟨q3, 10, none⟩ = some (.slice wA wm wc) := ⟨cell_blk hb3 0, cell_blk hb3 1, cell_blk hb3 2, cell_blk hb3 3, cell_blk hb3 4, cell_blk hb3 5, cell_blk hb3 6, cell_blk hb3 7, cell_blk hb3 8, cell_blk hb3 9, cell_blk hb3 10⟩
  have ⟨z0, z1, z2, z3, z4, z5, z6, z7, z8, z9, z10⟩ : w4.cell? ⟨w.heap.size, 0, none⟩ = some (.string ⟨#[]⟩) ∧ w4.cell? ⟨w.heap.size, 1, none⟩ = some (.int .i64 0) ∧ w4.cell? ⟨w.heap.size, 2, none⟩ = some (.int .i64 0) ∧ w4.cell? ⟨w.heap.size, 3, none⟩ = some (.int .i64 0) ∧ w4.cell? ⟨w.heap.size, 4, none⟩ = some (.string ⟨#[]⟩) ∧ w4.cell? ⟨w.heap.size, 5, none⟩ = some (.int .i64 0) ∧ w4.cell? ⟨w.heap.size, 6, none⟩ = some (.int .i64 0) ∧ w4.cell? ⟨w.heap.size, 7, none⟩ = some (.string ⟨#[]⟩) ∧ w4.cell? ⟨w.heap.size, 8, none⟩ = some (.slice none 0 0) ∧ w4.cell? ⟨w.heap.size, 9, none⟩ = some (.slice none 0 0) ∧ w4.cell? ⟨w.heap.size, 10, none⟩ = some (.slice none 0 0) := ⟨cell_blk hb2 0, cell_blk hb2 1, cell_blk hb2 2, cell_blk hb2 3, cell_blk hb2 4, cell_blk hb2 5, cell_blk hb2 6, cell_blk hb2 7, cell_blk hb2 8, cell_blk hb2 9, cell_blk hb2 10⟩
  have ⟨f0, f1, f2, f3, f4, f5, f6, f7, f8, f9, f10⟩ : w4.frozen? ⟨w.heap.size, 0, none⟩ = false ∧ w4.frozen? ⟨w.heap.size, 1, none⟩ = false ∧ w4.frozen? ⟨w.heap.size, 2, none⟩ = false ∧ w4.frozen? ⟨w.heap.size, 3, none⟩ = false ∧ w4.frozen? ⟨w.heap.size, 4, none⟩ = false ∧ w4.frozen? ⟨w.heap.size, 5, none⟩ = false ∧ w4.frozen? ⟨w.heap.size, 6, none⟩ = false ∧ w4.frozen? ⟨w.heap.size, 7, none⟩ = false ∧ w4.frozen? ⟨w.heap.size, 8, none⟩ = false ∧ w4.frozen? ⟨w.heap.size, 9, none⟩ = false ∧ w4.frozen? ⟨w.heap.size, 10, none⟩ = false := ⟨free_blk hb2 0, free_blk hb2 1, free_blk hb2 2, free_blk hb2 3, free_blk hb2 4, free_blk hb2 5, free_blk hb2 6, free_blk hb2 7, free_blk hb2 8, free_blk hb2 9, free_blk hb2 10⟩
  obtain ⟨Y, hY⟩ : ∃ Y, setL w4 w.heap.size 0 [.string n1, .int .i64 (nd.kd : Int), .int .i64 (nd.a : Int), .int .i64 (nd.b : Int), .string (bs nd.nm), .int .i64 e0, .int .i64 e1, .string e2, .slice A m c, .slice kA km kc, .slice wA wm wc] = Y := ⟨_, rfl⟩
  have tW : Touch (fun b => b = w.heap.size) w4 Y := by rw [← hY]; exact setL_touch _ _ _
  have bY := setL_blk (t := 52) (fr := (0, 0)) [.string n1, .int .i64 (nd.kd : Int), .int .i64 (nd.a : Int), .int .i64 (nd.b : Int), .string (bs nd.nm), .int .i64 e0, .int .i64 e1, .string e2, .slice A m c, .slice kA km kc, .slice wA wm wc] [.string ⟨#[]⟩, .int .i64 0, .int .i64 0, .int .i64 0, .string ⟨#[]⟩, .int .i64 0, .int .i64 0, .string ⟨#[]⟩, .slice none 0 0, .slice none 0 0, .slice none 0 0] [] w4 rfl hb2
  rw [show ([] : List Value).length = 0 from rfl, hY] at bY
  have HBY := Lib.hid (show TB Y w.heap.size #[.string n1, .int .i64 (nd.kd : Int), .int .i64 (nd.a : Int), .int .i64 (nd.b : Int), .string (bs nd.nm), .int .i64 e0, .int .i64 e1, .string e2, .slice A m c, .slice kA km kc, .slice wA wm wc] from bY)
  clear bY
  simp only [setL, Nat.reduceAdd] at hY
  clear hb2 hb3
  go_wp2
  have hby : Y.heap[w.heap.size]? = _ := HBY.out
  have ⟨r0, r1, r2, r3, r4, r5, r6, r7, r8, r9, r10⟩ : Y.cell? ⟨w.heap.size, 0, none⟩ = some (.string n1) ∧ Y.cell? ⟨w.heap.size, 1, none⟩ = some (.int .i64 (nd.kd : Int)) ∧ Y.cell? ⟨w.heap.size, 2, none⟩ = some (.int .i64 (nd.a : Int)) ∧ Y.cell? ⟨w.heap.size, 3, none⟩ = some (.int .i64 (nd.b : Int)) ∧ Y.cell? ⟨w.heap.size, 4, none⟩ = some (.string (bs nd.nm)) ∧ Y.cell? ⟨w.heap.size, 5, none⟩ = some (.int .i64 e0) ∧ Y.cell? ⟨w.heap.size, 6, none⟩ = some (.int .i64 e1) ∧ Y.cell? ⟨w.heap.size, 7, none⟩ = some (.string e2) ∧ Y.cell? ⟨w.heap.size, 8, none⟩ = some (.slice A m c) ∧ Y.cell? ⟨w.heap.size, 9, none⟩ = some (.slice kA km kc) ∧ Y.cell? ⟨w.heap.size, 10, none⟩ = some (.slice wA wm wc) := ⟨cell_blk hby 0, cell_blk hby 1, cell_blk hby 2, cell_blk hby 3, cell_blk hby 4, cell_blk hby 5, cell_blk hby 6, cell_blk hby 7, cell_blk hby 8, cell_blk hby 9, cell_blk hby 10⟩
  refine bodyPost_ret (v := .agg #[.string n1, .int .i64 (nd.kd : Int), .int .i64 (nd.a : Int), .int .i64 (nd.b : Int), .string (bs nd.nm), .int .i64 e0, .int .i64 e1, .string e2, .slice A m c, .slice kA km kc, .slice wA wm wc]) (by simp [results, Tryd.results32, go_sem, r0, r1, r2, r3, r4, r5, r6, r7, r8, r9, r10]) rfl ⟨e0, e1, e2, A, m, c, kA, km, kc, wA, wm, wc, rfl, ⟨D, [.int .i64 (nd.kd : Int), .int .i64 (nd.a : Int), .int .i64 (nd.b : Int), .string (bs nd.nm), .int .i64 e0, .int .i64 e1, .string e2, .slice A m c, .slice kA km kc, .slice wA wm wc], by rw [← hn1], ?_⟩, HP.out.touchX tW hgp hgl, HT.out.trans tW (fun b hb => .inr (by omega))⟩
  exact NT.via (Q := fun b => w.heap.size < b ∧ b ≠ q3) (fun b h1 _ => Nat.le_of_lt h1.1) _ _ _ (NT.touch tW (fun b h1 => by omega) _ _ _ HNT.out)
end Go.Proofs.YtanecdpcenkoeaaDoor
