/-
  The roots of the first primes, reckoned by the kernel. No program is named here.
-/
import Derived.Test.YtjcpnephgbehmaaDoorRootNum
namespace Go.Proofs.YtjcpnephgbehmaaDoor.Ro
theorem roots0 : [2, 3, 5, 7, 11, 13, 17, 19].map (root · 3) = [1116352408, 1899447441, 3049323471, 3921009573, 961987163, 1508970993, 2453635748, 2870763221] := by decide +kernel
theorem roots1 : [23, 29, 31, 37, 41, 43, 47, 53].map (root · 3) = [3624381080, 310598401, 607225278, 1426881987, 1925078388, 2162078206, 2614888103, 3248222580] := by decide +kernel
theorem roots2 : [59, 61, 67, 71, 73, 79, 83, 89].map (root · 3) = [3835390401, 4022224774, 264347078, 604807628, 770255983, 1249150122, 1555081692, 1996064986] := by decide +kernel
theorem roots3 : [97, 101, 103, 107, 109, 113, 127, 131].map (root · 3) = [2554220882, 2821834349, 2952996808, 3210313671, 3336571891, 3584528711, 113926993, 338241895] := by decide +kernel
theorem roots4 : [137, 139, 149, 151, 157, 163, 167, 173].map (root · 3) = [666307205, 773529912, 1294757372, 1396182291, 1695183700, 1986661051, 2177026350, 2456956037] := by decide +kernel
theorem roots5 : [179, 181, 191, 193, 197, 199, 211, 223].map (root · 3) = [2730485921, 2820302411, 3259730800, 3345764771, 3516065817, 3600352804, 4094571909, 275423344] := by decide +kernel
theorem roots6 : [227, 229, 233, 239, 241, 251, 257, 263].map (root · 3) = [430227734, 506948616, 659060556, 883997877, 958139571, 1322822218, 1537002063, 1747873779] := by decide +kernel
theorem roots7 : [269, 271, 277, 281, 283, 293, 307, 311].map (root · 3) = [1955562222, 2024104815, 2227730452, 2361852424, 2428436474, 2756734187, 3204031479, 3329325298] := by decide +kernel
theorem roots64 : P64.map (root · 3) = Sh.K := by
  have e : P64 = ([2, 3, 5, 7, 11, 13, 17, 19] : List Nat) ++ ([23, 29, 31, 37, 41, 43, 47, 53] : List Nat) ++ ([59, 61, 67, 71, 73, 79, 83, 89] : List Nat) ++ ([97, 101, 103, 107, 109, 113, 127, 131] : List Nat) ++ ([137, 139, 149, 151, 157, 163, 167, 173] : List Nat) ++ ([179, 181, 191, 193, 197, 199, 211, 223] : List Nat) ++ ([227, 229, 233, 239, 241, 251, 257, 263] : List Nat) ++ ([269, 271, 277, 281, 283, 293, 307, 311] : List Nat) := rfl
  rw [e]
  simp only [List.map_append, roots0, roots1, roots2, roots3, roots4, roots5, roots6, roots7]
  rfl
theorem roots8 : P8.map (root · 2) = Sh.H0.l := by decide +kernel
end Go.Proofs.YtjcpnephgbehmaaDoor.Ro
