package verify

import (
	"fmt"
	"slices"
	"testing"

	"ganglion/api"
	"ganglion/net"
)

// P11.1: different situations have different strings, and equal ones the same, whatever numbers are in them.
func TestP11_1Names(t *testing.T) {
	numbers := []int{0, 1, -1, 2, 63, 64, -64, -65, 127, 128, 129, 256, -128, 8191, 8192, -8192, -8193, 1 << 20, -1 << 20, 1 << 28, -1 << 28}
	var g uint64 = 3
	below := func(n int) int {
		g = g*6364136223846793005 + 1442695040888963407
		return int(g>>33) % n
	}
	number := func() int { return numbers[below(3*len(numbers))%len(numbers)*below(2)] }
	names := map[string]string{}
	seen := map[string]bool{}
	for range 100000 {
		x := situation{image: net.Image{States: make([]api.State, 2), Due: make([][]int, 4)}, left: max(number(), 0), shown: 1 + 2*below(2)}
		x.image.States[below(2)] = api.State{V: number(), Rest: below(3)}
		for d := range x.image.Due {
			x.image.Due[d] = make([]int, 2)
		}
		x.image.Due[below(4)][below(2)] = number()
		x.image.Due[below(4)][below(2)] = number()
		plain := fmt.Sprint(x.image, x.left, x.shown)
		name := x.name()
		if was, has := names[name]; has && was != plain {
			t.Fatalf("%s and %s have the same string", was, plain)
		}
		if !seen[plain] == (names[name] != "") {
			t.Fatalf("%s has another string than before", plain)
		}
		names[name], seen[plain] = plain, true
	}
	if len(names) < 20000 {
		t.Errorf("there were %d situations only", len(names))
	}
}

// P11.1: choices come in their order, and none of them has too many events.
func TestP11_1Choices(t *testing.T) {
	for _, x := range []struct {
		inputs, most int
		want         []int
	}{
		{0, 0, []int{0}}, {0, 5, []int{0}}, {2, 0, []int{0}}, {2, 1, []int{0, 1, 2}}, {2, 2, []int{0, 1, 2, 3}},
		{3, 2, []int{0, 1, 2, 3, 4, 5, 6}}, {4, 1, []int{0, 1, 2, 4, 8}},
	} {
		if l := slices.Collect(choices(x.inputs, x.most)); !slices.Equal(l, x.want) {
			t.Errorf("choices(%d, %d): %v, want %v", x.inputs, x.most, l, x.want)
		}
	}
	if l := slices.Collect(choices(MaxFree, 1<<62)); len(l) != 64 || !slices.IsSorted(l) {
		t.Errorf("choices of 6 inputs: %v", l)
	}
	for c := range choices(MaxFree, 6) { // a range can be left
		if c == 3 {
			break
		}
	}
}
