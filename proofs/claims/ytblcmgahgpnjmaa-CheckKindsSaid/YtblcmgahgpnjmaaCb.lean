/-
  What package check's kindsOf returns. Conditions: those that each theorem names.
-/
import Derived.Test.YtblcmgahgpnjmaaCa
namespace Go.Proofs.Ytblcmgahgpnjmaa
open Go.ChangeShapes Go.WideShapes Go.ChangeAt Go.RowKit Go.Maps
set_option maxRecDepth 100000
set_option maxHeartbeats 4000000

def KoRel (B n : Nat) (l : List KyG) (w : World) (v11 : Value) (wr : World) : Prop := ∃ i : Nat, i ≤ n ∧ v11 = .int .i64 i ∧ KM wr B i (l.take i) ∧ Touch NoB w wr
theorem kindsof_any (A : Option Addr) (n cap : Nat) (l : List KyG) (w : World) (hn : l.length = n) (hn2 : n ≤ 1000000) (h : KAtG w NoB A l) (hw : ∀ k ∈ l, W64 k.kd) :
    Calls Try.prog 10 #[.slice A n cap] w fun e w' => e = .returned (.map (some w.heap.size)) ∧ KM w' w.heap.size n l ∧ Touch NoB w w' := by
  have hmm := @run_makeMap Try.prog
  have HK := Lib.hid (And.intro h (And.intro hn hw))
  clear h hn hw
  go_enter Try.func10, Try.ntmps10
  go_wp2
  go_loopw [11] (fun v11 wr => KoRel w.heap.size n l w v11 wr) (fun v11 _ => n - (intOf v11).toNat)
  case atStart => exact ⟨0, Nat.zero_le _, rfl, KM.made w, (Touch.refl _ _).alloc _⟩
  case round =>
    obtain ⟨i, hi, rfl, hm, hT⟩ := hrel
    by_cases hlt : i < n
    · obtain ⟨k, hk⟩ : ∃ k, l[i]? = some k := ⟨l[i]'(by have := HK.out.2.1; omega), List.getElem?_eq_getElem _⟩
      have hkl := (List.getElem?_eq_some_iff.1 hk)
      have hw64 := HK.out.2.2 k (List.mem_of_getElem? hk)
      have htk : l.take (i + 1) = l.take i ++ [k] := by rw [List.take_add_one, hk]; rfl
      obtain ⟨hsz, b, off, rfl, hb, -, c0, c1, c2⟩ := (HK.out.1.touch hT) i k hk
      obtain ⟨nm, kd, sh⟩ := k
      simp only at hsz c0 c1 c2 hw64
      obtain ⟨W1, hW1⟩ : ∃ W, wr.alloc (.cells #[.string nm, .int .i64 kd, .bool sh] 29) = W := ⟨_, rfl⟩
      have t1 : Touch NoB wr W1 := by rw [← hW1]; exact (Touch.refl _ _).alloc _
      have hbk : W1.heap[wr.heap.size]? = some (.cells #[.string nm, .int .i64 kd, .bool sh] 29 (0, 0)) := by rw [← hW1]; exact alloc_blk _ _ _ rfl
      have q0 := cell_blk hbk 0
      have q1 := cell_blk hbk 1
      have q2 := cell_blk hbk 2
      have q3 := blk_lt hbk
      have hm1 := hm.touch t1 (fun f => f)
      obtain ⟨c, hrun, hc⟩ := hm1.look hsz
      have hB : w.heap.size ≤ w.heap.size := Nat.le_refl _
      have HTW := Lib.hid (hT.same t1)
      cases hf : kdG (l.take i) nm with
      | some x =>
        rw [hf] at hrun
        have HR : Hid (KM W1 w.heap.size (i + 1) (l.take (i + 1))) := Lib.hid (hm1.same (Nat.le_succ _) (fun s => by
          rw [htk, kdG_snoc]
          cases h1 : kdG (l.take i) s with
          | some y => rfl
          | none =>
            have : eqG nm s = false := by
              cases h2 : eqG nm s with
              | false => rfl
              | true => have := eqG_iff.1 h2; subst this; rw [hf] at h1; cases h1
            simp [this]))
        clear hm hm1 hbk htk hkl hk hf hc hT t1 hw64
        go_wp2
        go_roundw
        case rel => exact ⟨i + 1, by omega, by go_num, HR.out, HTW.out⟩
        case measure => simp [intOf]; omega
      | none =>
        rw [hf] at hrun
        obtain ⟨W2, hrun2, hm2, t2⟩ := hm1.store (k := ⟨nm, kd, sh⟩) (by omega) hsz hw64 hf
        rw [← htk] at hm2
        have HR := Lib.hid (And.intro hm2 (HTW.out.trans t2 (fun x hx => .inr (by subst hx; exact Nat.le_refl _))))
        clear hm hm1 hbk htk hkl hk hf hc hT t1 hw64 hm2 t2
        go_wp2
        go_roundw
        case rel => exact ⟨i + 1, by omega, by go_num, HR.out.1, HR.out.2⟩
        case measure => simp [intOf]; omega
    · obtain rfl : i = n := by omega
      have e : l.take i = l := by rw [← HK.out.2.1, List.take_length]
      rw [e] at hm
      have HR := Lib.hid (And.intro hm hT)
      clear hm hT e
      go_wp2
      go_ret
      exact ⟨rfl, HR.out.1, HR.out.2⟩
end Go.Proofs.Ytblcmgahgpnjmaa
