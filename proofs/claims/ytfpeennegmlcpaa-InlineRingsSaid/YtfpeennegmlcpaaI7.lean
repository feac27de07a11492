/-
  Nodes and trees loaded and stored whole; what package inline's placesOf returns of trees of bare nodes. Conditions: those that each theorem names.
-/
import Derived.Test.YtfpeennegmlcpaaI6
import Derived.Test.YtfpeennegmlcpaaN4
import Derived.Deep.MidRow
namespace Go.Proofs.Ytfpeennegmlcpaa
open Go.ChangeShapes Go.WideShapes Go.ChangeAt Go.RowKit
set_option maxRecDepth 100000
set_option maxHeartbeats 4000000

theorem touch_setCellsN (b : Nat) : ∀ (vs : List Value) (o : Nat) (w0 w : World), Touch (fun k => k = b) w0 w → Touch (fun k => k = b) w0 (w.setCells b o vs)
  | [], _, _, _, h => h
  | v :: r, o, w0, w, h => by
    rw [World.setCells]
    exact touch_setCellsN b r (o + 1) w0 _ (h.setCell (p := ⟨b, o, none⟩) (.inl rfl) v)
theorem blk_setCells (b : Nat) {T : TypeId} : ∀ (vs : List Value) (o : Nat) (w : World) {us : Array Value}, w.heap[b]? = some (.cells us T (0, 0)) → ∃ us', (w.setCells b o vs).heap[b]? = some (.cells us' T (0, 0)) ∧ us'.size = us.size
  | [], _, _, us, h => ⟨us, h, rfl⟩
  | v :: r, o, w, us, h => by
    rw [World.setCells]
    obtain ⟨us', h1, h2⟩ := blk_setCells b r (o + 1) (w.setCell ⟨b, o, none⟩ v) (set_blk h o v)
    exact ⟨us', h1, by rw [h2, Array.size_setIfInBounds]⟩
/-- The load and the store of a whole api.Node: closed to the walk's simp. -/
def LoadN (v : Value) : Sem Value := Instr.loadAt 30 v
theorem loadN_of (v : Value) : Instr.loadAt 30 v = LoadN v := rfl
def StoreN (x y : Value) : Sem Unit := Instr.storeAt 30 x y
theorem storeN_of (x y : Value) : Instr.storeAt 30 x y = StoreN x y := rfl
theorem isRow_N : (Try.prog.underlying 30).map TypeDesc.isRow = some true := by kernel_rfl
theorem size_N : (Try.prog.info? 30).map (·.size) = some 10 := by kernel_rfl
theorem run_LoadN (W : World) (b o : Nat) (cs : List Value) (hl : cs.length = 10) (hc : W.rangeAt b o cs) : (LoadN (.pointer (some ⟨b, o, none⟩))).run Try.prog W = .ok (.agg cs.toArray) W := by
  cases hu : Try.prog.underlying 30 with
  | none => have := isRow_N; rw [hu] at this; cases this
  | some d =>
    have h := isRow_N
    rw [hu] at h
    exact run_loadAt_mid W b o _ cs d hc hu (by injection h) (by rw [hl]; exact size_N)
theorem run_StoreN (W : World) (b : Nat) (cs : List Value) (hl : cs.length = 10) (h1 : ∀ v ∈ cs, v.oneCell' = true) {us : Array Value} {T : TypeId} (hb : W.heap[b]? = some (.cells us T (0, 0))) (hu : us.size = 10) :
    ∃ W' us', (StoreN (.pointer (some ⟨b, 0, none⟩)) (.agg cs.toArray)).run Try.prog W = .ok () W' ∧ W'.rangeAt b 0 cs ∧ W'.heap[b]? = some (.cells us' T (0, 0)) ∧ us'.size = 10 ∧ Touch (fun k => k = b) W W' := by
  have ht : W.there b 0 cs.length := fun j hj => ⟨by rw [Lib.cell_of_heap hb]; simp; omega, free_blk hb _⟩
  obtain ⟨us', hb', hs'⟩ := blk_setCells b cs 0 W hb
  refine ⟨_, us', ?_, World.rangeAt_setCells_same W b 0 cs ht, hb', hs'.trans hu, touch_setCellsN b cs 0 W W (Touch.refl _ _)⟩
  have := run_storeAt_mid W b 0 30 cs.toArray (by simpa using ht) (P := Try.prog) (by rw [List.size_toArray, hl]; exact size_N) (all_oneCell_toArray h1)
  have e : cs.toArray.toList = cs := by simp
  rw [e] at this
  exact this
/-- The load and the store of a whole api.Tree: closed to the walk's simp. -/
def LoadT (v : Value) : Sem Value := Instr.loadAt 32 v
theorem loadT_of (v : Value) : Instr.loadAt 32 v = LoadT v := rfl
def StoreT (x y : Value) : Sem Unit := Instr.storeAt 32 x y
theorem storeT_of (x y : Value) : Instr.storeAt 32 x y = StoreT x y := rfl
theorem isRow_T : (Try.prog.underlying 32).map TypeDesc.isRow = some true := by kernel_rfl
theorem size_T : (Try.prog.info? 32).map (·.size) = some 11 := by kernel_rfl
theorem run_LoadT (W : World) (b o : Nat) (cs : List Value) (hl : cs.length = 11) (hc : W.rangeAt b o cs) : (LoadT (.pointer (some ⟨b, o, none⟩))).run Try.prog W = .ok (.agg cs.toArray) W := by
  cases hu : Try.prog.underlying 32 with
  | none => have := isRow_T; rw [hu] at this; cases this
  | some d =>
    have h := isRow_T
    rw [hu] at h
    exact run_loadAt_mid W b o _ cs d hc hu (by injection h) (by rw [hl]; exact size_T)
theorem run_StoreT (W : World) (b : Nat) (cs : List Value) (hl : cs.length = 11) (h1 : ∀ v ∈ cs, v.oneCell' = true) {us : Array Value} {T : TypeId} (hb : W.heap[b]? = some (.cells us T (0, 0))) (hu : us.size = 11) :
    ∃ W' us', (StoreT (.pointer (some ⟨b, 0, none⟩)) (.agg cs.toArray)).run Try.prog W = .ok () W' ∧ W'.rangeAt b 0 cs ∧ W'.heap[b]? = some (.cells us' T (0, 0)) ∧ us'.size = 11 ∧ Touch (fun k => k = b) W W' := by
  have ht : W.there b 0 cs.length := fun j hj => ⟨by rw [Lib.cell_of_heap hb]; simp; omega, free_blk hb _⟩
  obtain ⟨us', hb', hs'⟩ := blk_setCells b cs 0 W hb
  refine ⟨_, us', ?_, World.rangeAt_setCells_same W b 0 cs ht, hb', hs'.trans hu, touch_setCellsN b cs 0 W W (Touch.refl _ _)⟩
  have := run_storeAt_mid W b 0 32 cs.toArray (by simpa using ht) (P := Try.prog) (by rw [List.size_toArray, hl]; exact size_T) (all_oneCell_toArray h1)
  have e : cs.toArray.toList = cs := by simp
  rw [e] at this
  exact this
attribute [local go_sem ↓] loadN_of storeN_of loadT_of storeT_of
/-- The eleven cells of a tree. -/
def trC (t : TrP) (u : Value) : List Value := .string t.1 :: ndC t.2.kd t.2.nm u
/-- The trees ts lie at block tb. -/
def TL (w : World) (Q : Nat → Prop) (D : Nat) (ts : List TrP) (tb : Nat) : Prop := ∃ cur T, w.heap[tb]? = some (.cells cur T (0, 0)) ∧ Q tb ∧ ts.length ≤ 1000 ∧ ∀ (i : Nat) (t : TrP), ts[i]? = some t → t.2.ok ∧ t.1.size ≤ 9223372036854775807 ∧
  ∃ u, (∀ (j : Nat) (x : Value), (trC t u)[j]? = some x → cur[i * 11 + j]? = some x) ∧ KL w Q D t.2.ks u
theorem TL.via {w w' : World} {F Q : Nat → Prop} {D tb : Nat} {ts : List TrP} (h : TL w Q D ts tb) (t : Touch F w w') (h1 : ∀ b, Q b → ¬ F b) : TL w' Q D ts tb := by
  obtain ⟨cur, T, a1, a2, a3, a4⟩ := h
  refine ⟨cur, T, (t.block tb (blk_lt a1) (h1 tb a2)).trans a1, a2, a3, fun i x hx => ?_⟩
  obtain ⟨b1, b2, u, b3, b4⟩ := a4 i x hx
  exact ⟨b1, b2, u, b3, b4.via t (fun b hb => ⟨h1 b hb, hb⟩)⟩
theorem nmsT_get (ts : List TrP) (i : Nat) (t : TrP) (h : ts[i]? = some t) : (nmsT ts)[i]? = some (t.1, i) := by
  unfold nmsT
  rw [List.getElem?_map, List.getElem?_zipIdx, h]
  simp
theorem nmsT_len (ts : List TrP) : (nmsT ts).length = ts.length := by simp [nmsT]
theorem form_one {w : World} {Q : Nat → Prop} {d : Nat} {l : List BN} {v : Value} (h : KL w Q d l v) : v.oneCell' = true := by
  rcases h.form with ⟨-, rfl⟩ | ⟨g, m, c, rfl, -⟩ <;> rfl
theorem trC_one {t : TrP} {u : Value} (h : u.oneCell' = true) : ∀ v ∈ trC t u, v.oneCell' = true := by
  intro v hv
  simp only [trC, ndC, List.mem_cons, List.not_mem_nil, or_false] at hv
  rcases hv with rfl | rfl | rfl | rfl | rfl | rfl | rfl | rfl | rfl | rfl | rfl <;> first | rfl | exact h
def PoRel (B n : Nat) (l : List NmP) (w : World) (v11 : Value) (wr : World) : Prop := ∃ i : Nat, i ≤ n ∧ v11 = .int .i64 i ∧ PK wr B i (l.take i) ∧ Touch NoB w wr
theorem places_any {w : World} {Q : Nat → Prop} {D tb n : Nat} {ts : List TrP} (hn : ts.length = n) (h : TL w Q D ts tb) (c : Nat) :
    Calls Try.prog 42 #[.slice (some ⟨tb, 0, none⟩) n c] w fun e w' => e = .returned (.map (some w.heap.size)) ∧ PK w' w.heap.size n (nmsT ts) ∧ Touch NoB w w' := by
  have hmm := @run_makeMap Try.prog
  have HK := Lib.hid (And.intro h hn)
  clear h hn
  go_enter Try.func42, Try.ntmps42
  go_wp2
  go_loopw [11] (fun v11 wr => PoRel w.heap.size n (nmsT ts) w v11 wr) (fun v11 _ => n - (intOf v11).toNat)
  case atStart => exact ⟨0, Nat.zero_le _, rfl, PK.made w, (Touch.refl _ _).alloc _⟩
  case round =>
    obtain ⟨i, hi, rfl, hm, hT⟩ := hrel
    by_cases hlt : i < n
    · obtain ⟨t, ht⟩ : ∃ t, ts[i]? = some t := ⟨ts[i]'(by have := HK.out.2; omega), List.getElem?_eq_getElem _⟩
      obtain ⟨cur, T, a1, a2, a3, a4⟩ := HK.out.1.via hT (fun b _ f => f)
      obtain ⟨b1, b2, u, b3, b4⟩ := a4 i t ht
      have hone := trC_one (t := t) (form_one b4)
      have hload := run_LoadT wr tb (i * 11) (trC t u) rfl (fun j x hx => (cell_blk a1 (i * 11 + j)).trans (b3 j x hx))
      have hsz : n ≤ 1000 := by have := HK.out.2; omega
      have htk : (nmsT ts).take (i + 1) = (nmsT ts).take i ++ [(t.1, i)] := by rw [List.take_add_one, nmsT_get ts i t ht]; rfl
      obtain ⟨nm, k, s, ks⟩ := t
      simp only [trC, ndC, BN.kd, BN.nm] at hload hone b2 htk
      obtain ⟨W1, hW1⟩ : ∃ W1, wr.alloc (.cells #[.string ⟨#[]⟩, .int .i64 0, .int .i64 0, .int .i64 0, .string ⟨#[]⟩, .int .i64 0, .int .i64 0, .string ⟨#[]⟩, .slice none 0 0, .slice none 0 0, .slice none 0 0] 32) = W1 := ⟨_, rfl⟩
      have t1 : Touch NoB wr W1 := hW1 ▸ (Touch.refl NoB wr).alloc _
      have hb1 : W1.heap[wr.heap.size]? = some (.cells #[.string ⟨#[]⟩, .int .i64 0, .int .i64 0, .int .i64 0, .string ⟨#[]⟩, .int .i64 0, .int .i64 0, .string ⟨#[]⟩, .slice none 0 0, .slice none 0 0, .slice none 0 0] 32 (0, 0)) := hW1 ▸ mk_blk wr _ _ rfl
      obtain ⟨W2, us, hst, hr2, hb2, hs2, t2⟩ := run_StoreT W1 wr.heap.size _ rfl hone hb1 rfl
      have q0 : W2.cell? ⟨wr.heap.size, 0, none⟩ = some (.string nm) := by simpa using hr2 0 (.string nm) rfl
      have q3 := blk_lt hb2
      have t12 : Touch NoB wr W2 := t1.trans t2 (fun x hx => .inr (by omega))
      have hm2 := hm.touch t12 (fun f => f)
      obtain ⟨c0, hrun, hc⟩ := hm2.look b2
      have HW1 := Lib.hid hW1
      have HTW := Lib.hid (hT.same t12)
      have HA := Lib.hid (And.intro a3 a4)
      clear t1 hb1 hr2 hb2 hs2 t2 hT a1 a2 a3 a4 b1 b3 b4 ht hone t12 hW1 hm
      cases hf : kdN ((nmsT ts).take i) nm with
      | some x =>
        rw [hf] at hrun
        have HR : Hid (PK W2 w.heap.size (i + 1) ((nmsT ts).take (i + 1))) := Lib.hid (hm2.same (Nat.le_succ _) (fun s => by
          rw [htk, kdN_snoc]
          cases h1 : kdN ((nmsT ts).take i) s with
          | some y => rfl
          | none =>
            have : eqN nm s = false := by
              cases h2 : eqN nm s with
              | false => rfl
              | true => have := eqN_iff.1 h2; subst this; rw [hf] at h1; cases h1
            simp [this]))
        clear hm2 htk hf hc b2
        go_wp2_with fail
        rw [HW1.out, hst]
        go_wp2
        go_roundw
        case rel => exact ⟨i + 1, by omega, by go_num, HR.out, HTW.out⟩
        case measure => simp [intOf]; omega
      | none =>
        rw [hf] at hrun
        obtain ⟨W3, hrun2, hm3, t3⟩ := hm2.store (k := (nm, i)) (by omega) b2 (by simp only; omega) hf
        rw [← htk] at hm3
        have HR := Lib.hid (And.intro hm3 (HTW.out.trans t3 (fun x hx => .inr (by subst hx; exact Nat.le_refl _))))
        simp only at hrun2
        clear hm2 htk hf hc b2 hm3 t3
        go_wp2_with fail
        rw [HW1.out, hst]
        go_wp2
        go_roundw
        case rel => exact ⟨i + 1, by omega, by go_num, HR.out.1, HR.out.2⟩
        case measure => simp [intOf]; omega
    · obtain rfl : i = n := by omega
      have e : (nmsT ts).take i = nmsT ts := by rw [← HK.out.2, ← nmsT_len, List.take_length]
      rw [e] at hm
      have HR := Lib.hid (And.intro hm hT)
      clear hm hT e
      go_wp2
      go_ret
      exact ⟨rfl, HR.out.1, HR.out.2⟩
end Go.Proofs.Ytfpeennegmlcpaa
