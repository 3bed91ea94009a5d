package tests

import (
	"slices"
	"testing"

	"loop.example/g00388/impl"
)

func key(node int64, ver int64) impl.Key {
	return impl.Key{Node: node, Ver: ver}
}

func wrap(under impl.Key, k impl.Key) impl.Wrap {
	return impl.Wrap{Under: under, Key: k}
}

func wantNumbers(t *testing.T, what string, got []int64, want ...int64) {
	t.Helper()
	if !slices.Equal(got, want) {
		t.Errorf("%s: got %v, want %v", what, got, want)
	}
}

func wantKeys(t *testing.T, what string, got []impl.Key, want ...impl.Key) {
	t.Helper()
	if !slices.Equal(got, want) {
		t.Errorf("%s: got %v, want %v", what, got, want)
	}
}

// noNodes has what stands beside the nodes, and numbers that would be nodes if
// a program cut them to fewer bits.
var noNodes = []int64{0, 16, 17, 30, 31, 32, 100, -1, -7, -8, -15, -16, 1 << 8, 1<<8 + 1, 1<<16 + 8, 1<<31 - 1, 1 << 31, 1<<32 + 1, 1<<32 + 15, 1<<62 + 1, 1<<63 - 1, -1 << 63, -1<<63 + 1}

// numbers is a row of numbers that looks unordered and is the same every time.
type numbers struct {
	at uint64
}

func (n *numbers) below(limit int64) int64 {
	n.at = n.at*6364136223846793005 + 1442695040888963407
	return int64(n.at>>33) % limit
}

func shuffled[T any](n *numbers, l []T) []T {
	out := slices.Clone(l)
	for i := len(out) - 1; i > 0; i-- {
		j := n.below(int64(i) + 1)
		out[i], out[j] = out[j], out[i]
	}
	return out
}

// roomy answers the same list with spare room behind it, filled with filler.
func roomy[T any](l []T, filler T) []T {
	out := slices.Clone(l)
	for range 8 {
		out = append(out, filler)
	}
	return out[:len(l)]
}

// whole answers the list together with its spare room.
func whole[T any](l []T) []T {
	return slices.Clone(l[:cap(l)])
}

// spoil writes over a list and the room behind it: whoever shares it shows that.
func spoil[T any](l []T, filler T) {
	for i := range l[:cap(l)] {
		l[:cap(l)][i] = filler
	}
}
