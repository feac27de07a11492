/-
  Package check's first and the library's ContainsFunc over a node's Kids, with any function of three captured variables. Conditions: those that each theorem names.
-/
import Derived.Test.YtnphaaahdlkmhaaGreatZs37
import Derived.Deep.RegionHeld3
section
namespace Go.Proofs.YtnphaaahdlkmhaaGreat
open Go.ChangeShapes Go.WideShapes Go.ChangeAt Go.RowKit Go.Maps
set_option maxRecDepth 100000
set_option maxHeartbeats 4000000

theorem firstnode_gen {σ : Type} {Q F : Nat → Prop} {P : Nat → σ → World → Prop} {Fin : Int → World → Prop} {fn q1 q2 q3 : Nat} (l : List Nd) (A : Option Addr) (n cap D : Nat) (xs : List Value) (w : World)
    (hfn : ∀ (args : Array Value) (w : World), (callFunc fn args).run Tryz.prog w = .ok (.enter fn args) w)
    (hn : l.length = n) (hn2 : n ≤ 1000000) (hS : SlAt w Q (.slice A n cap) n xs) (hL : LsAt (NT w Q D) l xs) (hQF : ∀ b, Q b → ¬ F b)
    (hP : ∀ i s W W', P i s W → Touch NoB W W' → P i s W')
    (hstep : ∀ (i : Nat) (y : Nd) (s : σ) (W : World) (D : Nat) (e0 e1 : Int) (e2 : ByteArray) (B : Option Addr) (m c : Nat) (A1 : Option Addr) (c1 : Nat) (A2 : Option Addr) (c2 : Nat) (us zs : List Value), l[i]? = some y → Touch F w W → P i s W → NdC W Q D y e0 e1 e2 B m c A1 c1 A2 c2 us zs →
      Calls Tryz.prog fn #[.agg (ndA y e0 e1 e2 B m c A1 c1 A2 c2), .pointer (some ⟨q1, 0, none⟩), .pointer (some ⟨q2, 0, none⟩), .pointer (some ⟨q3, 0, none⟩)] W fun e w' => ∃ r : Int, e = .returned (.int .i64 r) ∧ Touch F W w' ∧ (r = 0 → ∃ s', P (i + 1) s' w') ∧ (r ≠ 0 → Fin r w'))
    (hend : ∀ s W, P n s W → Fin 0 W) (s0 : σ) (h0 : P 0 s0 w) :
    Calls Tryz.prog 73 #[.slice A n cap, .func (.func fn) #[] #[.pointer (some ⟨q1, 0, none⟩), .pointer (some ⟨q2, 0, none⟩), .pointer (some ⟨q3, 0, none⟩)]] w fun e w' => ∃ r : Int, e = .returned (.int .i64 r) ∧ Fin r w' ∧ Touch F w w' := by
  have HX := Lib.hid (And.intro hS (And.intro hL (And.intro hQF (And.intro hP (And.intro hend (And.intro h0 hn))))))
  have HS := Lib.hid hstep
  clear hS hL hQF hP hend h0 hn hstep
  go_enter Tryz.func73, Tryz.ntmps73
  go_wp2
  go_loopw [10] (fun v10 wr => TgRel P F n w v10 wr) (fun v10 _ => n - (intOf v10).toNat)
  case atStart => exact ⟨0, s0, Nat.zero_le _, rfl, HX.out.2.2.2.2.2.1, Touch.refl _ _⟩
  case round =>
    obtain ⟨i, s, hi, rfl, hPi, hT⟩ := hrel
    by_cases hlt : i < n
    · obtain ⟨y, hy⟩ : ∃ y, l[i]? = some y := ⟨l[i]'(by have := HX.out.2.2.2.2.2.2; omega), List.getElem?_eq_getElem _⟩
      have hq := HX.out.2.2.1
      obtain ⟨b, e0, e1, e2, B, m, c', A1, c1, A2, c2, rfl, hKid⟩ := kids_atC (HX.out.1.touch hT hq) (HX.out.2.1.mono (NT.touch hT hq D)) i y hy
      have hrg := hKid.rg
      have d0 : wr.cell? ⟨b, i * 10, none⟩ = some (.int .i64 (y.kd : Int)) := hrg 0 _ rfl
      have d1 : wr.cell? ⟨b, i * 10 + 1, none⟩ = some (.int .i64 (y.a : Int)) := hrg 1 _ rfl
      have d2 : wr.cell? ⟨b, i * 10 + 2, none⟩ = some (.int .i64 (y.b : Int)) := hrg 2 _ rfl
      have d3 : wr.cell? ⟨b, i * 10 + 3, none⟩ = some (.string (bs y.nm)) := hrg 3 _ rfl
      have d4 : wr.cell? ⟨b, i * 10 + 4, none⟩ = some (.int .i64 e0) := hrg 4 _ rfl
      have d5 : wr.cell? ⟨b, i * 10 + 5, none⟩ = some (.int .i64 e1) := hrg 5 _ rfl
      have d6 : wr.cell? ⟨b, i * 10 + 6, none⟩ = some (.string e2) := hrg 6 _ rfl
      have d7 : wr.cell? ⟨b, i * 10 + 7, none⟩ = some (.slice B m c') := hrg 7 _ rfl
      have d8 : wr.cell? ⟨b, i * 10 + 8, none⟩ = some (.slice A1 y.ks.length c1) := hrg 8 _ rfl
      have d9 : wr.cell? ⟨b, i * 10 + 9, none⟩ = some (.slice A2 y.ws.length c2) := hrg 9 _ rfl
      have dlt := hKid.lt
      have hnt := hKid.nt
      have HC : Hid (∀ W, Touch NoB wr W → Calls Tryz.prog fn #[.agg (ndA y e0 e1 e2 B m c' A1 c1 A2 c2), .pointer (some ⟨q1, 0, none⟩), .pointer (some ⟨q2, 0, none⟩), .pointer (some ⟨q3, 0, none⟩)] W fun e w' => ∃ r : Int, e = .returned (.int .i64 r) ∧ Touch F W w' ∧ (r = 0 → ∃ s', P (i + 1) s' w') ∧ (r ≠ 0 → Fin r w')) := Lib.hid (fun W t => by
        cases D with
        | zero => exact hnt.elim
        | succ D =>
          obtain ⟨f0, f1, f2, B', m', cc', B1, d1', B2, d2', us, zs, he, hC⟩ := nt_open hnt
          have h := HS.out i y s W D f0 f1 f2 B' m' cc' B1 d1' B2 d2' us zs hy (hT.same (t.mono (fun b f => f.elim))) (HX.out.2.2.2.1 i s wr W hPi t) (hC.touch t (fun b _ f => f))
          have he2 : ndA y e0 e1 e2 B m c' A1 c1 A2 c2 = ndA y f0 f1 f2 B' m' cc' B1 d1' B2 d2' := he
          rw [he2]
          exact h)
      have HR := Lib.hid (And.intro hy (And.intro hPi hT))
      unfold ndA ndV at HC
      obtain ⟨z0, hz0⟩ : ∃ z, (y.kd : Int) = z := ⟨_, rfl⟩
      obtain ⟨z1, hz1⟩ : ∃ z, (y.a : Int) = z := ⟨_, rfl⟩
      obtain ⟨z2, hz2⟩ : ∃ z, (y.b : Int) = z := ⟨_, rfl⟩
      obtain ⟨z3, hz3⟩ : ∃ z, bs y.nm = z := ⟨_, rfl⟩
      obtain ⟨z8, hz8⟩ : ∃ z, y.ks.length = z := ⟨_, rfl⟩
      obtain ⟨z9, hz9⟩ : ∃ z, y.ws.length = z := ⟨_, rfl⟩
      rw [hz0] at d0 HC
      rw [hz1] at d1 HC
      rw [hz2] at d2 HC
      rw [hz3] at d3 HC
      rw [hz8] at d8 HC
      rw [hz9] at d9 HC
      clear hy hPi hT hrg hKid hnt hq hz0 hz1 hz2 hz3 hz8 hz9
      go_wp2_with (go_at_fn fn; refine (HC.out _ (by repeat (first | with_reducible exact Touch.refl NoB _ | with_reducible refine Touch.drew ?_ | with_reducible refine Touch.alloc ?_ _))).mono ?_; rintro r' w2 ⟨r, rfl, hT2, hr0, hr1⟩; have HT2 := Lib.hid (And.intro hr0 (And.intro hr1 (Touch.same (F := F) (a := wr) (by repeat (first | with_reducible exact Touch.refl _ _ | with_reducible refine Touch.drew ?_ | with_reducible refine Touch.alloc ?_ _)) hT2))); clear hT2 hr0 hr1; by_cases hrz : r = 0)
      · have HZ := Lib.hid hrz
        subst hrz
        go_wp2
        go_roundw
        case rel =>
          obtain ⟨s', hs'⟩ := HT2.out.1 rfl
          exact ⟨i + 1, s', by omega, by go_num, hs', HR.out.2.2.same HT2.out.2.2⟩
        case measure => simp [intOf]; omega
      · have hne : (r != 0) = true := by simpa using hrz
        have HZ := Lib.hid hrz
        clear hrz
        go_wp2
        go_ret
        exact ⟨_, rfl, HT2.out.2.1 HZ.out, HR.out.2.2.same HT2.out.2.2⟩
    · have hin : i = n := by omega
      subst hin
      have HR := Lib.hid (And.intro hPi hT)
      clear hPi hT
      go_wp2
      go_ret
      exact ⟨_, rfl, HX.out.2.2.2.2.1 s wr HR.out.1, HR.out.2⟩
theorem indexnode_gen {σ : Type} {Q F : Nat → Prop} {P : Nat → σ → World → Prop} {Fin : Bool → World → Prop} {fn q1 q2 q3 : Nat} (l : List Nd) (A : Option Addr) (n cap D : Nat) (xs : List Value) (w : World)
    (hfn : ∀ (args : Array Value) (w : World), (callFunc fn args).run Tryz.prog w = .ok (.enter fn args) w)
    (hn : l.length = n) (hn2 : n ≤ 1000000) (hS : SlAt w Q (.slice A n cap) n xs) (hL : LsAt (NT w Q D) l xs) (hQF : ∀ b, Q b → ¬ F b)
    (hP : ∀ i s W W', P i s W → Touch NoB W W' → P i s W')
    (hstep : ∀ (i : Nat) (y : Nd) (s : σ) (W : World) (D : Nat) (e0 e1 : Int) (e2 : ByteArray) (B : Option Addr) (m c : Nat) (A1 : Option Addr) (c1 : Nat) (A2 : Option Addr) (c2 : Nat) (us zs : List Value), l[i]? = some y → Touch F w W → P i s W → NdC W Q D y e0 e1 e2 B m c A1 c1 A2 c2 us zs →
      Calls Tryz.prog fn #[.agg (ndA y e0 e1 e2 B m c A1 c1 A2 c2), .pointer (some ⟨q1, 0, none⟩), .pointer (some ⟨q2, 0, none⟩), .pointer (some ⟨q3, 0, none⟩)] W fun e w' => ∃ r : Bool, e = .returned (.bool r) ∧ Touch F W w' ∧ (r = false → ∃ s', P (i + 1) s' w') ∧ (r = true → Fin true w'))
    (hend : ∀ s W, P n s W → Fin false W) (s0 : σ) (h0 : P 0 s0 w) :
    Calls Tryz.prog 93 #[.slice A n cap, .func (.func fn) #[] #[.pointer (some ⟨q1, 0, none⟩), .pointer (some ⟨q2, 0, none⟩), .pointer (some ⟨q3, 0, none⟩)]] w fun e w' => ∃ i : Int, e = .returned (.int .i64 i) ∧ Fin (decide (0 ≤ i)) w' ∧ Touch F w w' := by
  have HX := Lib.hid (And.intro hS (And.intro hL (And.intro hQF (And.intro hP (And.intro hend (And.intro h0 hn))))))
  have HS := Lib.hid hstep
  clear hS hL hQF hP hend h0 hn hstep
  go_enter Tryz.func93, Tryz.ntmps93
  go_wp2
  go_loopw [8] (fun v8 wr => TgRel P F n w v8 wr) (fun v8 _ => n - (intOf v8).toNat)
  case atStart => exact ⟨0, s0, Nat.zero_le _, rfl, HX.out.2.2.2.2.2.1, Touch.refl _ _⟩
  case round =>
    obtain ⟨i, s, hi, rfl, hPi, hT⟩ := hrel
    by_cases hlt : i < n
    · obtain ⟨y, hy⟩ : ∃ y, l[i]? = some y := ⟨l[i]'(by have := HX.out.2.2.2.2.2.2; omega), List.getElem?_eq_getElem _⟩
      have hq := HX.out.2.2.1
      obtain ⟨b, e0, e1, e2, B, m, c', A1, c1, A2, c2, rfl, hKid⟩ := kids_atC (HX.out.1.touch hT hq) (HX.out.2.1.mono (NT.touch hT hq D)) i y hy
      have hrg := hKid.rg
      have d0 : wr.cell? ⟨b, i * 10, none⟩ = some (.int .i64 (y.kd : Int)) := hrg 0 _ rfl
      have d1 : wr.cell? ⟨b, i * 10 + 1, none⟩ = some (.int .i64 (y.a : Int)) := hrg 1 _ rfl
      have d2 : wr.cell? ⟨b, i * 10 + 2, none⟩ = some (.int .i64 (y.b : Int)) := hrg 2 _ rfl
      have d3 : wr.cell? ⟨b, i * 10 + 3, none⟩ = some (.string (bs y.nm)) := hrg 3 _ rfl
      have d4 : wr.cell? ⟨b, i * 10 + 4, none⟩ = some (.int .i64 e0) := hrg 4 _ rfl
      have d5 : wr.cell? ⟨b, i * 10 + 5, none⟩ = some (.int .i64 e1) := hrg 5 _ rfl
      have d6 : wr.cell? ⟨b, i * 10 + 6, none⟩ = some (.string e2) := hrg 6 _ rfl
      have d7 : wr.cell? ⟨b, i * 10 + 7, none⟩ = some (.slice B m c') := hrg 7 _ rfl
      have d8 : wr.cell? ⟨b, i * 10 + 8, none⟩ = some (.slice A1 y.ks.length c1) := hrg 8 _ rfl
      have d9 : wr.cell? ⟨b, i * 10 + 9, none⟩ = some (.slice A2 y.ws.length c2) := hrg 9 _ rfl
      have dlt := hKid.lt
      have hnt := hKid.nt
      have HC : Hid (∀ W, Touch NoB wr W → Calls Tryz.prog fn #[.agg (ndA y e0 e1 e2 B m c' A1 c1 A2 c2), .pointer (some ⟨q1, 0, none⟩), .pointer (some ⟨q2, 0, none⟩), .pointer (some ⟨q3, 0, none⟩)] W fun e w' => ∃ r : Bool, e = .returned (.bool r) ∧ Touch F W w' ∧ (r = false → ∃ s', P (i + 1) s' w') ∧ (r = true → Fin true w')) := Lib.hid (fun W t => by
        cases D with
        | zero => exact hnt.elim
        | succ D =>
          obtain ⟨f0, f1, f2, B', m', cc', B1, d1', B2, d2', us, zs, he, hC⟩ := nt_open hnt
          have h := HS.out i y s W D f0 f1 f2 B' m' cc' B1 d1' B2 d2' us zs hy (hT.same (t.mono (fun b f => f.elim))) (HX.out.2.2.2.1 i s wr W hPi t) (hC.touch t (fun b _ f => f))
          have he2 : ndA y e0 e1 e2 B m c' A1 c1 A2 c2 = ndA y f0 f1 f2 B' m' cc' B1 d1' B2 d2' := he
          rw [he2]
          exact h)
      have HR := Lib.hid (And.intro hy (And.intro hPi hT))
      unfold ndA ndV at HC
      obtain ⟨z0, hz0⟩ : ∃ z, (y.kd : Int) = z := ⟨_, rfl⟩
      obtain ⟨z1, hz1⟩ : ∃ z, (y.a : Int) = z := ⟨_, rfl⟩
      obtain ⟨z2, hz2⟩ : ∃ z, (y.b : Int) = z := ⟨_, rfl⟩
      obtain ⟨z3, hz3⟩ : ∃ z, bs y.nm = z := ⟨_, rfl⟩
      obtain ⟨z8, hz8⟩ : ∃ z, y.ks.length = z := ⟨_, rfl⟩
      obtain ⟨z9, hz9⟩ : ∃ z, y.ws.length = z := ⟨_, rfl⟩
      rw [hz0] at d0 HC
      rw [hz1] at d1 HC
      rw [hz2] at d2 HC
      rw [hz3] at d3 HC
      rw [hz8] at d8 HC
      rw [hz9] at d9 HC
      clear hy hPi hT hrg hKid hnt hq hz0 hz1 hz2 hz3 hz8 hz9
      go_wp2_with (go_at_fn fn; refine (HC.out _ (by repeat (first | with_reducible exact Touch.refl NoB _ | with_reducible refine Touch.drew ?_ | with_reducible refine Touch.alloc ?_ _))).mono ?_; rintro r' w2 ⟨r, rfl, hT2, hr0, hr1⟩; have HT2 := Lib.hid (And.intro hr0 (And.intro hr1 (Touch.same (F := F) (a := wr) (by repeat (first | with_reducible exact Touch.refl _ _ | with_reducible refine Touch.drew ?_ | with_reducible refine Touch.alloc ?_ _)) hT2))); clear hT2 hr0 hr1; cases r)
      · go_wp2
        go_roundw
        case rel =>
          obtain ⟨s', hs'⟩ := HT2.out.1 trivial
          exact ⟨i + 1, s', by omega, by go_num, hs', HR.out.2.2.same HT2.out.2.2⟩
        case measure => simp [intOf]; omega
      · go_wp2
        go_ret
        exact ⟨_, rfl, by have h := HT2.out.2.1 trivial; simpa using h, HR.out.2.2.same HT2.out.2.2⟩
    · have hin : i = n := by omega
      subst hin
      have HR := Lib.hid (And.intro hPi hT)
      clear hPi hT
      go_wp2
      go_ret
      exact ⟨_, rfl, HX.out.2.2.2.2.1 s wr HR.out.1, HR.out.2⟩
end Go.Proofs.YtnphaaahdlkmhaaGreat
end
/-
  Package check's uses: does a node use a tree? Conditions: those that each theorem names.
-/
section
namespace Go.Proofs.YtnphaaahdlkmhaaGreat
open Go.ChangeShapes Go.WideShapes Go.ChangeAt Go.RowKit Go.Maps
set_option maxRecDepth 100000
set_option maxHeartbeats 4000000

/-- A set of names, no larger than its list. -/
def NMs (w : World) (sb : Nat) (l : List ByteArray) : Prop := ∃ m, m ≤ l.length ∧ NM w sb m l
theorem NMs.touch {w w' : World} {sb : Nat} {l : List ByteArray} {F : Nat → Prop} (h : NMs w sb l) (t : Touch F w w') (hf : ¬ F sb) : NMs w' sb l := by
  obtain ⟨m, hm, h⟩ := h
  exact ⟨m, hm, h.touch t hf⟩
theorem NMs.lt {w : World} {sb : Nat} {l : List ByteArray} (h : NMs w sb l) : sb < w.heap.size := by
  obtain ⟨m, hm, h⟩ := h
  exact h.lt
/-- A name that is there is not added. -/
theorem add_had {mb n : Nat} {l : List ByteArray} {s : ByteArray} (w : World) (h : NM w mb n l) (hs : s.size ≤ 9223372036854775807) (hq : inN l s = true) : Calls Tryz.prog 44 #[.map (some mb), .string s] w fun e w' => e = .returned (.bool false) ∧ Touch NoB w w' := by
  have HH := Lib.hid (has13_any (s := s) w h hs)
  rw [hq] at HH
  clear h hq
  go_enter Tryz.func44, Tryz.ntmps44
  go_wp2_with fail
  refine HH.out.mono ?_
  rintro r w2 ⟨rfl, hT⟩
  have HT := Lib.hid hT
  clear hT
  go_wp2
  go_ret
  exact ⟨rfl, HT.out⟩
theorem add_new {mb : Nat} {l : List ByteArray} {s : ByteArray} (w : World) (h : NMs w mb l) (hs : s.size ≤ 9223372036854775807) (hq : inN l s = false) (hl : l.length ≤ 1000) : Calls Tryz.prog 44 #[.map (some mb), .string s] w fun e w' => e = .returned (.bool true) ∧ NMs w' mb (l ++ [s]) ∧ Touch (fun b => b = mb) w w' := by
  obtain ⟨m, hm, h⟩ := h
  refine (add13_any w h (by omega) hs).mono ?_
  rintro e w' ⟨rfl, h2, ht⟩
  refine ⟨by rw [hq]; rfl, ⟨m + 1, by simp; omega, ?_⟩, ht⟩
  unfold addNm at h2
  rw [hq] at h2
  exact h2
/-- What uses reads. -/
structure US (w : World) (cb kb rb db sb : Nat) (vs : List Value) (ts : List Tr) (rs : List (ByteArray × Value)) (Q : Nat → Prop) : Prop where
  ck : ∃ k, CkB w cb kb rb db k
  rm : ∃ mr, RM w vs rb mr rs
  rs : RsAt w Q ts rs
  nc : cb ≠ sb
  nr : rb ≠ sb
  hQ : ∀ b, Q b → b ≠ sb
theorem US.touch {w w' : World} {cb kb rb db sb : Nat} {vs : List Value} {ts : List Tr} {rs : List (ByteArray × Value)} {Q : Nat → Prop} (h : US w cb kb rb db sb vs ts rs Q) (t : Touch (fun b => b = sb) w w') : US w' cb kb rb db sb vs ts rs Q := by
  obtain ⟨⟨k, h1⟩, ⟨mr, h2⟩, h3, h4, h5, h6⟩ := h
  exact ⟨⟨k, h1.touch t h4⟩, ⟨mr, h2.touch t h5⟩, h3.touch t h6, h4, h5, h6⟩
def UsesOk (cb kb rb db sb : Nat) (vs : List Value) (ts : List Tr) (rs : List (ByteArray × Value)) (Q : Nat → Prop) (f : Nat) : Prop :=
  ∀ (n : Nd) (nm : Bs) (seen : List ByteArray) (X : Bool × List ByteArray), usF (findR ts) f n nm seen = some X → (∃ g, ndFit g n = true) → (∀ t ∈ ts, ∃ g, ndFit g t.root = true) → nm.length ≤ 100000 →
  ∀ (w : World) (D : Nat) (e0 e1 : Int) (e2 : ByteArray) (A : Option Addr) (m c : Nat) (A1 : Option Addr) (c1 : Nat) (A2 : Option Addr) (c2 : Nat) (xs ys : List Value),
    US w cb kb rb db sb vs ts rs Q → NMs w sb seen → NdC w Q D n e0 e1 e2 A m c A1 c1 A2 c2 xs ys →
    Calls Tryz.prog 50 #[.pointer (some ⟨cb, 0, none⟩), .agg (ndA n e0 e1 e2 A m c A1 c1 A2 c2), .string (bs nm), .map (some sb)] w fun e w' => e = .returned (.bool X.1) ∧ NMs w' sb X.2 ∧ Touch (fun b => b = sb) w w'
theorem uses1_any {cb kb rb db sb : Nat} {vs : List Value} {ts : List Tr} {rs : List (ByteArray × Value)} {Q : Nat → Prop} {f : Nat} (ih : UsesOk cb kb rb db sb vs ts rs Q f)
    (y : Nd) (nm : Bs) (seen : List ByteArray) (X : Bool × List ByteArray) (hX : usF (findR ts) f y nm seen = some X) (hf : ∃ g, ndFit g y = true) (hts : ∀ t ∈ ts, ∃ g, ndFit g t.root = true) (hnm : nm.length ≤ 100000)
    (w : World) (D : Nat) (e0 e1 : Int) (e2 : ByteArray) (A : Option Addr) (m c : Nat) (A1 : Option Addr) (c1 : Nat) (A2 : Option Addr) (c2 : Nat) (xs ys : List Value) (q1 q2 q3 : Nat)
    (hU : US w cb kb rb db sb vs ts rs Q) (hS : NMs w sb seen) (hC : NdC w Q D y e0 e1 e2 A m c A1 c1 A2 c2 xs ys)
    (h1 : w.heap[q1]? = some (.cells #[.pointer (some ⟨cb, 0, none⟩)] 105 (0, 0))) (h2 : w.heap[q2]? = some (.cells #[.string (bs nm)] 9 (0, 0))) (h3 : w.heap[q3]? = some (.cells #[.map (some sb)] 78 (0, 0))) :
    Calls Tryz.prog 75 #[.agg (ndA y e0 e1 e2 A m c A1 c1 A2 c2), .pointer (some ⟨q1, 0, none⟩), .pointer (some ⟨q2, 0, none⟩), .pointer (some ⟨q3, 0, none⟩)] w fun e w' => e = .returned (.bool X.1) ∧ NMs w' sb X.2 ∧ Touch (fun b => b = sb) w w' := by
  have HO := Lib.hid (fun W (t : Touch NoB w W) => ih y nm seen X hX hf hts hnm W D e0 e1 e2 A m c A1 c1 A2 c2 xs ys (hU.touch (t.mono (fun b f => f.elim))) (hS.touch t (fun f => f)) (hC.touch t (fun b _ f => f)))
  have a1 := cell_blk h1 0
  have a2 := cell_blk h2 0
  have a3 := cell_blk h3 0
  have b1 := blk_lt h1
  have b2 := blk_lt h2
  have b3 := blk_lt h3
  obtain ⟨x1, x2⟩ := X
  simp only at HO ⊢
  unfold ndA ndV at HO ⊢
  obtain ⟨z0, hz0⟩ : ∃ z, (y.kd : Int) = z := ⟨_, rfl⟩
  obtain ⟨z1, hz1⟩ : ∃ z, (y.a : Int) = z := ⟨_, rfl⟩
  obtain ⟨z2, hz2⟩ : ∃ z, (y.b : Int) = z := ⟨_, rfl⟩
  obtain ⟨z3, hz3⟩ : ∃ z, bs y.nm = z := ⟨_, rfl⟩
  obtain ⟨z8, hz8⟩ : ∃ z, y.ks.length = z := ⟨_, rfl⟩
  obtain ⟨z9, hz9⟩ : ∃ z, y.ws.length = z := ⟨_, rfl⟩
  rw [hz0, hz1, hz2, hz3, hz8, hz9] at HO ⊢
  clear hX hf hts hnm hU hS hC h1 h2 h3 ih hz0 hz1 hz2 hz3 hz8 hz9
  go_enter Tryz.func75, Tryz.ntmps75
  go_wp2_with fail
  refine (HO.out _ (by repeat (first | with_reducible exact Touch.refl NoB _ | with_reducible refine Touch.drew ?_ | with_reducible refine Touch.alloc ?_ _))).mono ?_
  rintro r w2 ⟨rfl, hN, hT⟩
  have HT := Lib.hid (And.intro hN (Touch.same (F := fun b => b = sb) (a := w) (by repeat (first | with_reducible exact Touch.refl _ _ | with_reducible refine Touch.drew ?_ | with_reducible refine Touch.alloc ?_ _)) hT))
  clear hN hT
  go_wp2
  go_ret
  exact ⟨rfl, HT.out.1, HT.out.2⟩
end Go.Proofs.YtnphaaahdlkmhaaGreat
end
/-
  Package check's expand: what a node comes to with what it uses. Conditions: those that each theorem names.
-/
section
namespace Go.Proofs.YtnphaaahdlkmhaaGreat
open Go.ChangeShapes Go.WideShapes Go.ChangeAt Go.RowKit Go.Maps
set_option maxRecDepth 100000
set_option maxHeartbeats 4000000

theorem epK_le {g : Nd → Nat → Option (Int × Nat)} (hg : ∀ y k k', g y k = some (0, k') → k ≤ 4000 → k' ≤ 4000) : ∀ (l : List Nd) (k k' : Nat), epK g l k = some (0, k') → k ≤ 4000 → k' ≤ 4000
  | [], k, k', h, hk => by simp only [epK, Option.some.injEq, Prod.mk.injEq, true_and] at h; omega
  | y :: l, k, k', h, hk => by
    unfold epK at h
    cases hy : g y k with
    | none => rw [hy] at h; cases h
    | some p =>
      obtain ⟨e, k2⟩ := p
      rw [hy] at h
      simp only at h
      by_cases he : e = 0
      · rw [if_pos he] at h
        subst he
        exact epK_le hg l k2 k' h (hg y k k2 hy hk)
      · rw [if_neg he] at h
        injection h with h
        injection h with h1 h2
        exact absurd h1 he
theorem epF_le {rt : Bs → Option Nd} : ∀ (f : Nat) (n : Nd) (d k k' : Nat), epF rt f n d k = some (0, k') → k ≤ 4000 → k' ≤ 4000
  | 0, n, d, k, k', h, _ => by simp [epF] at h
  | f + 1, n, d, k, k', h, hk => by
    unfold epF at h
    by_cases h10 : n.kd = 10
    · rw [if_pos h10] at h
      cases hr : rt n.nm with
      | none => rw [hr] at h; cases h
      | some r => rw [hr] at h; exact epF_le f r d k k' h hk
    · rw [if_neg h10] at h
      by_cases hd : 40 < d
      · rw [if_pos hd] at h
        injection h with h; injection h with h1 h2; cases h1
      · rw [if_neg hd] at h
        by_cases hk2 : 4000 < k + 1
        · rw [if_pos hk2] at h
          injection h with h; injection h with h1 h2; cases h1
        · rw [if_neg hk2] at h
          exact epK_le (fun y k k' h hk => epF_le f y (d + 1) k k' h hk) n.ks (k + 1) k' h (by omega)
def ExpOk (cb kb rb db nb : Nat) (vs : List Value) (ts : List Tr) (rs : List (ByteArray × Value)) (Q : Nat → Prop) (f : Nat) : Prop :=
  ∀ (n : Nd) (d k : Nat) (X : Int × Nat), epF (findR ts) f n d k = some X → (∃ g, ndFit g n = true) → (∀ t ∈ ts, ∃ g, ndFit g t.root = true) → d ≤ 41 → k ≤ 4000 →
  ∀ (w : World) (D : Nat) (e0 e1 : Int) (e2 : ByteArray) (A : Option Addr) (m c : Nat) (A1 : Option Addr) (c1 : Nat) (A2 : Option Addr) (c2 : Nat) (xs ys : List Value),
    US w cb kb rb db nb vs ts rs Q → w.heap[nb]? = some (.cells #[.int .i64 (k : Int)] 3 (0, 0)) → NdC w Q D n e0 e1 e2 A m c A1 c1 A2 c2 xs ys →
    Calls Tryz.prog 52 #[.pointer (some ⟨cb, 0, none⟩), .agg (ndA n e0 e1 e2 A m c A1 c1 A2 c2), .int .i64 (d : Int), .pointer (some ⟨nb, 0, none⟩)] w fun e w' => e = .returned (.int .i64 X.1) ∧ w'.heap[nb]? = some (.cells #[.int .i64 (X.2 : Int)] 3 (0, 0)) ∧ Touch (fun b => b = nb) w w'
theorem expand1_any {cb kb rb db nb : Nat} {vs : List Value} {ts : List Tr} {rs : List (ByteArray × Value)} {Q : Nat → Prop} {f : Nat} (ih : ExpOk cb kb rb db nb vs ts rs Q f)
    (y : Nd) (d k : Nat) (X : Int × Nat) (hX : epF (findR ts) f y (d + 1) k = some X) (hf : ∃ g, ndFit g y = true) (hts : ∀ t ∈ ts, ∃ g, ndFit g t.root = true) (hd : d ≤ 40) (hk : k ≤ 4000)
    (w : World) (D : Nat) (e0 e1 : Int) (e2 : ByteArray) (A : Option Addr) (m c : Nat) (A1 : Option Addr) (c1 : Nat) (A2 : Option Addr) (c2 : Nat) (xs ys : List Value) (q1 q2 q3 : Nat)
    (hU : US w cb kb rb db nb vs ts rs Q) (hN : w.heap[nb]? = some (.cells #[.int .i64 (k : Int)] 3 (0, 0))) (hC : NdC w Q D y e0 e1 e2 A m c A1 c1 A2 c2 xs ys)
    (h1 : w.heap[q1]? = some (.cells #[.pointer (some ⟨cb, 0, none⟩)] 105 (0, 0))) (h2 : w.heap[q2]? = some (.cells #[.int .i64 (d : Int)] 3 (0, 0))) (h3 : w.heap[q3]? = some (.cells #[.pointer (some ⟨nb, 0, none⟩)] 116 (0, 0))) :
    Calls Tryz.prog 76 #[.agg (ndA y e0 e1 e2 A m c A1 c1 A2 c2), .pointer (some ⟨q1, 0, none⟩), .pointer (some ⟨q2, 0, none⟩), .pointer (some ⟨q3, 0, none⟩)] w fun e w' => e = .returned (.int .i64 X.1) ∧ w'.heap[nb]? = some (.cells #[.int .i64 (X.2 : Int)] 3 (0, 0)) ∧ Touch (fun b => b = nb) w w' := by
  have HO := Lib.hid (fun W (t : Touch NoB w W) => ih y (d + 1) k X hX hf hts (by omega) hk W D e0 e1 e2 A m c A1 c1 A2 c2 xs ys (hU.touch (t.mono (fun b f => f.elim))) ((t.block _ (blk_lt hN) (fun f => f)).trans hN) (hC.touch t (fun b _ f => f)))
  have a1 := cell_blk h1 0
  have a2 := cell_blk h2 0
  have a3 := cell_blk h3 0
  have b1 := blk_lt h1
  have b2 := blk_lt h2
  have b3 := blk_lt h3
  have hwr : IntKind.i64.wrap ((d : Int) + 1) = ((d + 1 : Nat) : Int) := by rw [IntWalk.i64_in _ (by omega)]; simp
  obtain ⟨x1, x2⟩ := X
  simp only at HO ⊢
  unfold ndA ndV at HO ⊢
  obtain ⟨z0, hz0⟩ : ∃ z, (y.kd : Int) = z := ⟨_, rfl⟩
  obtain ⟨z1, hz1⟩ : ∃ z, (y.a : Int) = z := ⟨_, rfl⟩
  obtain ⟨z2, hz2⟩ : ∃ z, (y.b : Int) = z := ⟨_, rfl⟩
  obtain ⟨z3, hz3⟩ : ∃ z, bs y.nm = z := ⟨_, rfl⟩
  obtain ⟨z8, hz8⟩ : ∃ z, y.ks.length = z := ⟨_, rfl⟩
  obtain ⟨z9, hz9⟩ : ∃ z, y.ws.length = z := ⟨_, rfl⟩
  obtain ⟨dd, hdd⟩ : ∃ z, ((d + 1 : Nat) : Int) = z := ⟨_, rfl⟩
  rw [hdd] at hwr HO
  obtain ⟨de, hde⟩ : ∃ z, (d : Int) = z := ⟨_, rfl⟩
  rw [hde] at hwr a2
  rw [hz0, hz1, hz2, hz3, hz8, hz9] at HO ⊢
  clear hX hf hts hU hN hC h1 h2 h3 ih hz0 hz1 hz2 hz3 hz8 hz9 hdd hde hd hk
  go_enter Tryz.func76, Tryz.ntmps76
  go_wp2_with fail
  refine (HO.out _ (by repeat (first | with_reducible exact Touch.refl NoB _ | with_reducible refine Touch.drew ?_ | with_reducible refine Touch.alloc ?_ _))).mono ?_
  rintro r w2 ⟨rfl, hN, hT⟩
  have HT := Lib.hid (And.intro hN (Touch.same (F := fun b => b = nb) (a := w) (by repeat (first | with_reducible exact Touch.refl _ _ | with_reducible refine Touch.drew ?_ | with_reducible refine Touch.alloc ?_ _)) hT))
  clear hN hT
  go_wp2
  go_ret
  exact ⟨rfl, HT.out.1, HT.out.2⟩
theorem ex_boxes (w : World) (v0 : Value) (nd : Array Value) (v2 v3 : Value) {W : World} (hW : (((w.alloc (.cells #[v0] 105)).alloc (.cells nd 62)).alloc (.cells #[v2] 3)).alloc (.cells #[v3] 116) = W) :
    Touch NoB w W ∧ W.heap[w.heap.size]? = some (.cells #[v0] 105 (0, 0)) ∧ W.heap[w.heap.size + 1]? = some (.cells nd 62 (0, 0)) ∧ W.heap[w.heap.size + 1 + 1]? = some (.cells #[v2] 3 (0, 0)) ∧ W.heap[w.heap.size + 1 + 1 + 1]? = some (.cells #[v3] 116 (0, 0)) := by
  subst hW
  have e1 : (w.alloc (.cells #[v0] 105)).heap.size = w.heap.size + 1 := by simp only [World.size_alloc]
  have e2 : ((w.alloc (.cells #[v0] 105)).alloc (.cells nd 62)).heap.size = w.heap.size + 1 + 1 := by simp only [World.size_alloc]
  have e3 : (((w.alloc (.cells #[v0] 105)).alloc (.cells nd 62)).alloc (.cells #[v2] 3)).heap.size = w.heap.size + 1 + 1 + 1 := by simp only [World.size_alloc]
  refine ⟨((((Touch.refl _ _).alloc _).alloc _).alloc _).alloc _, ?_, ?_, ?_, alloc_blk _ _ _ e3⟩
  · exact (((((Touch.refl NoB _).alloc _).alloc _).alloc _).block _ (by rw [e1]; omega) (fun f => f)).trans (alloc_blk _ _ _ rfl)
  · exact ((((Touch.refl NoB _).alloc _).alloc _).block _ (by rw [e2]; omega) (fun f => f)).trans (alloc_blk _ _ _ e1)
  · exact (((Touch.refl NoB _).alloc _).block _ (by rw [e3]; omega) (fun f => f)).trans (alloc_blk _ _ _ e2)
end Go.Proofs.YtnphaaahdlkmhaaGreat
end
/-
  Package check's expand of a use. Conditions: those that each theorem names.
-/
section
namespace Go.Proofs.YtnphaaahdlkmhaaGreat
open Go.ChangeShapes Go.WideShapes Go.ChangeAt Go.RowKit Go.Maps
set_option maxRecDepth 100000
set_option maxHeartbeats 4000000

theorem exp_use {cb kb rb db nb : Nat} {vs : List Value} {ts : List Tr} {rs : List (ByteArray × Value)} {Q : Nat → Prop} {w : World} {X : Int × Nat} {d : Int} (a b : Int) (s : ByteArray) (e0 e1 : Int) (e2 : ByteArray) (A : Option Addr) (m c : Nat) (A1 : Option Addr) (n1 c1 : Nat) (A2 : Option Addr) (n2 c2 : Nat)
    (z0 z1 z2 : Int) (z3 : ByteArray) (f0 f1 : Int) (f2 : ByteArray) (B : Option Addr) (m' c' : Nat) (B1 : Option Addr) (z8 d1 : Nat) (B2 : Option Addr) (z9 d2 : Nat)
    (hnb : nb < w.heap.size) (hs : s.size ≤ 9223372036854775807) (hU : US w cb kb rb db nb vs ts rs Q)
    (hv : (fnd rs s).getD nodeZ = .agg (ndV z0 z1 z2 z3 f0 f1 f2 B m' c' B1 z8 d1 B2 z9 d2))
    (hR : ∀ W, Touch NoB w W → Calls Tryz.prog 52 #[.pointer (some ⟨cb, 0, none⟩), .agg (ndV z0 z1 z2 z3 f0 f1 f2 B m' c' B1 z8 d1 B2 z9 d2), .int .i64 d, .pointer (some ⟨nb, 0, none⟩)] W fun e w' => e = .returned (.int .i64 X.1) ∧ w'.heap[nb]? = some (.cells #[.int .i64 (X.2 : Int)] 3 (0, 0)) ∧ Touch (fun b => b = nb) W w') :
    Calls Tryz.prog 52 #[.pointer (some ⟨cb, 0, none⟩), .agg (ndV 10 a b s e0 e1 e2 A m c A1 n1 c1 A2 n2 c2), .int .i64 d, .pointer (some ⟨nb, 0, none⟩)] w fun e w' => e = .returned (.int .i64 X.1) ∧ w'.heap[nb]? = some (.cells #[.int .i64 (X.2 : Int)] 3 (0, 0)) ∧ Touch (fun b => b = nb) w w' := by
  unfold ndV at hv hR ⊢
  obtain ⟨x1, x2⟩ := X
  simp only at hR ⊢
  obtain ⟨W0, hW0⟩ : ∃ W, (((w.alloc (.cells #[.pointer (some ⟨cb, 0, none⟩)] 105)).alloc (.cells #[.int .i64 10, .int .i64 a, .int .i64 b, .string s, .int .i64 e0, .int .i64 e1, .string e2, .slice A m c, .slice A1 n1 c1, .slice A2 n2 c2] 62)).alloc (.cells #[.int .i64 d] 3)).alloc (.cells #[.pointer (some ⟨nb, 0, none⟩)] 116) = W := ⟨_, rfl⟩
  obtain ⟨t0, b0, b1, b2, b3⟩ := ex_boxes _ _ _ _ _ hW0
  have hu := hU.touch (t0.mono (fun b f => f.elim))
  obtain ⟨kk, hck⟩ := hu.ck
  obtain ⟨mr, hrm⟩ := hu.rm
  have hlk := (hrm.touch (w' := W0.drew) (F := NoB) (by repeat (first | with_reducible exact Touch.refl NoB _ | with_reducible refine Touch.drew ?_ | with_reducible refine Touch.alloc ?_ _)) (fun f => f)).look hs
  rw [hv] at hlk
  have HR := Lib.hid (fun W (t : Touch NoB W0 W) => hR W (t0.same t))
  have HT := Lib.hid t0
  have p0 := cell_blk b0 0
  have p9 := blk_lt b0
  have k0 := cell_blk b1 0
  have k3 := cell_blk b1 3
  have k9 := blk_lt b1
  have x0 := cell_blk b2 0
  have x9 := blk_lt b2
  have y0 := cell_blk b3 0
  have y9 := blk_lt b3
  have q1 := cell_blk hck 1
  have q9 := blk_lt hck
  have HNE := Lib.hid (And.intro (show ¬ w.heap.size = nb by omega) (And.intro (show ¬ w.heap.size + 1 = nb by omega) (And.intro (show ¬ w.heap.size + 1 + 1 = nb by omega) (And.intro (show ¬ w.heap.size + 1 + 1 + 1 = nb by omega) hU.nc))))
  clear t0 b0 b1 b2 b3 hU hR hv hu hck hrm hs hnb
  go_enter Tryz.func52, Tryz.ntmps52
  go_wp2_with fail
  have HB := Lib.hid (And.intro p0 (And.intro k3 (And.intro x0 (And.intro y0 q1))))
  have hne := HNE.out
  first | (go_region_held3 (fun w' => w'.cell? ⟨w.heap.size, 0, none⟩ = some (.pointer (some ⟨cb, 0, none⟩)) ∧ w'.cell? ⟨w.heap.size + 1, 3, none⟩ = some (.string s) ∧ w'.cell? ⟨w.heap.size + 1 + 1, 0, none⟩ = some (.int .i64 d) ∧ w'.cell? ⟨w.heap.size + 1 + 1 + 1, 0, none⟩ = some (.pointer (some ⟨nb, 0, none⟩)) ∧ w'.cell? ⟨cb, 1, none⟩ = some (.map (some rb))) (first | go_keep | exact ⟨p0, k3, x0, y0, q1⟩)
    (first
    | (go_at_call 52; refine (HR.out _ (by repeat (first | with_reducible exact Touch.refl NoB _ | with_reducible refine Touch.drew ?_ | with_reducible refine Touch.alloc ?_ _))).mono ?_; rintro r w3 ⟨rfl, hN3, hT3⟩
       have t3 := Touch.same (F := fun b => b = nb) (a := W0) (by repeat (first | with_reducible exact Touch.refl _ _ | with_reducible refine Touch.drew ?_ | with_reducible refine Touch.alloc ?_ _)) hT3
       have p0 := (t3.cell (p := ⟨w.heap.size, 0, none⟩) p9 hne.1).trans p0
       have k3 := (t3.cell (p := ⟨w.heap.size + 1, 3, none⟩) k9 hne.2.1).trans k3
       have x0 := (t3.cell (p := ⟨w.heap.size + 1 + 1, 0, none⟩) x9 hne.2.2.1).trans x0
       have y0 := (t3.cell (p := ⟨w.heap.size + 1 + 1 + 1, 0, none⟩) y9 hne.2.2.2.1).trans y0
       have q1 := (t3.cell (p := ⟨cb, 1, none⟩) q9 hne.2.2.2.2).trans q1
       have HT3 := Lib.hid (And.intro hN3 t3)
       clear hN3 hT3 t3))) | fail
  all_goals
    go_wp2
    go_ret
    exact ⟨rfl, HT3.out.1, (HT.out.mono (fun b f => f.elim)).same HT3.out.2⟩
end Go.Proofs.YtnphaaahdlkmhaaGreat
end
