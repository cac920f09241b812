package mesh_test

import (
	"slices"
	"testing"

	"ganglion/api"
	"ganglion/mesh"
)

// P4.1: a mesh is valid if its sides and its room are in their ranges.
func TestP4_1Check(t *testing.T) {
	for _, s := range []mesh.Spec{six, eight, {Wide: 1, High: 1, Room: 1}, {Wide: 8, High: 1, Room: 64}, {Wide: 1, High: 8, Room: 63}} {
		if e := mesh.Check(s); e != api.OK {
			t.Errorf("Check(%v): %d", s, e)
		}
	}
	for _, s := range badSpecs() {
		if e := mesh.Check(s); e != api.ErrRange {
			t.Errorf("Check(%v): %d", s, e)
		}
	}
}

// P4.1: all functions with a mesh return its error before all others.
func TestP4_1CheckFirst(t *testing.T) {
	tooMany := make([]mesh.Way, mesh.MaxEntries+1)
	for _, s := range badSpecs() {
		_, distance := mesh.Distance(s, -1, 99)
		_, route := mesh.Route(s, -1, 99)
		_, noSource := mesh.Tree(s, -1, nil)
		_, tables := mesh.Tables(s, tooMany)
		_, run := mesh.Run(s, nil, make([]mesh.Packet, mesh.MaxPackets+1), -1)
		_, barrier := mesh.Barrier(s, []int{-1})
		for name, e := range map[string]api.Errno{"Distance": distance, "Route": route, "Tree": noSource, "Tables": tables, "CheckTables": mesh.CheckTables(s, nil), "Run": run, "Barrier": barrier} {
			if e != api.ErrRange {
				t.Errorf("%s with the mesh %v: %d", name, s, e)
			}
		}
	}
}

// P4.1: the examples of the chapter, and routes that are special.
func TestP4_1Routes(t *testing.T) {
	for _, x := range []struct {
		s        mesh.Spec
		from, to int
		want     []int
	}{
		{six, 0, 5, []int{0, 1, 2, 5}},
		{six, 5, 0, []int{5, 4, 3, 0}},
		{six, 4, 4, []int{4}},
		{six, 3, 2, []int{3, 4, 5, 2}},
		{six, 1, 4, []int{1, 4}},
		{mesh.Spec{Wide: 1, High: 1, Room: 1}, 0, 0, []int{0}},
		{mesh.Spec{Wide: 1, High: 4, Room: 1}, 3, 1, []int{3, 2, 1}},
		{eight, 63, 0, []int{63, 62, 61, 60, 59, 58, 57, 56, 48, 40, 32, 24, 16, 8, 0}},
	} {
		l, e := mesh.Route(x.s, x.from, x.to)
		if e != api.OK || !slices.Equal(l, x.want) {
			t.Errorf("Route from %d to %d on %v: %v, %d", x.from, x.to, x.s, l, e)
		}
		if d, e := mesh.Distance(x.s, x.from, x.to); e != api.OK || d != len(x.want)-1 {
			t.Errorf("Distance from %d to %d on %v: %d, %d", x.from, x.to, x.s, d, e)
		}
	}
}

// P4.1: all routes, on meshes of all sizes.
func TestP4_1AllRoutes(t *testing.T) {
	for wide := 1; wide <= mesh.MaxSide; wide++ {
		for high := 1; high <= mesh.MaxSide; high++ {
			s := mesh.Spec{Wide: wide, High: high, Room: 1}
			for pair := range wide * high * wide * high {
				from, to := pair/(wide*high), pair%(wide*high)
				want, _ := routeModel(s, from, to)
				if l, e := mesh.Route(s, from, to); e != api.OK || !slices.Equal(l, want) {
					t.Fatalf("Route from %d to %d on %v: %v, %d, want %v", from, to, s, l, e, want)
				}
				if d, e := mesh.Distance(s, from, to); e != api.OK || d != distance(s, from, to) {
					t.Fatalf("Distance from %d to %d on %v: %d, %d", from, to, s, d, e)
				}
			}
		}
	}
}

// P4.1: both ends have to exist.
func TestP4_1NoRouter(t *testing.T) {
	for _, x := range edges {
		want := api.ErrNone
		if x >= 0 && x < 6 {
			want = api.OK
		}
		for _, ends := range [][2]int{{x, 0}, {0, x}, {x, x}} {
			_, e := mesh.Route(six, ends[0], ends[1])
			_, f := mesh.Distance(six, ends[0], ends[1])
			if e != want || f != want {
				t.Errorf("Route from %d to %d: %d, Distance: %d", ends[0], ends[1], e, f)
			}
		}
	}
}

// P4.2: the example of the chapter, targets that are listed twice, and the source as a target.
func TestP4_2Tree(t *testing.T) {
	for _, x := range []struct {
		source  int
		targets []int
		want    []int
	}{
		{0, []int{2, 5, 0}, []int{17, 1, 18, 0, 0, 16}},
		{0, []int{5, 0, 2, 2, 5, 5}, []int{17, 1, 18, 0, 0, 16}},
		{4, []int{4}, []int{0, 0, 0, 0, 16, 0}},
		{4, []int{0, 1, 2, 3, 4, 5}, []int{16, 16, 16, 24, 29, 24}},
		{1, []int{0, 1, 2, 3, 4, 5}, []int{18, 23, 18, 16, 16, 16}},
		{5, []int{0}, []int{16, 0, 0, 8, 4, 4}},
	} {
		if l := tree(t, six, x.source, x.targets); !slices.Equal(l, x.want) {
			t.Errorf("Tree from %d to %v: %v, want %v", x.source, x.targets, l, x.want)
		}
	}
	one := mesh.Spec{Wide: 1, High: 1, Room: 1}
	if l := tree(t, one, 0, make([]int, 100000)); !slices.Equal(l, []int{mesh.Local}) {
		t.Errorf("Tree to the same target many times: %v", l)
	}
}

// P4.2: the source comes first, then each target, and then that there are none.
func TestP4_2TreeErrors(t *testing.T) {
	for _, x := range []struct {
		source  int
		targets []int
		want    api.Errno
	}{
		{6, []int{0}, api.ErrNone},
		{-1, nil, api.ErrNone},
		{0, []int{0, 5, 6}, api.ErrNone},
		{0, []int{-1, 0}, api.ErrNone},
		{0, nil, api.ErrArg},
		{5, []int{}, api.ErrArg},
	} {
		if l, e := mesh.Tree(six, x.source, x.targets); e != x.want || len(l) > 0 {
			t.Errorf("Tree from %d to %v: %v, %d", x.source, x.targets, l, e)
		}
	}
}

// follow collects to which cores the outputs of a tree lead from a router, once for each path, and marks the outputs.
func follow(s mesh.Spec, outputs []int, router int, used []int) []int {
	var cores []int
	for _, out := range outs {
		if outputs[router]&out == 0 {
			continue
		}
		used[router] |= out
		to, has := leads(s, router, out)
		switch {
		case !has:
			cores = append(cores, -1)
		case out == mesh.Local:
			cores = append(cores, router)
		default:
			cores = append(cores, follow(s, outputs, to, used)...)
		}
	}
	return cores
}

// P4.7: a tree leads to each target on just one path, its route, and over nothing else.
func TestP4_7Trees(t *testing.T) {
	var g generator = 11
	for range 5000 {
		s := g.spec(8)
		source := g.router(s)
		var targets []int
		want := make([]int, s.Wide*s.High)
		for range g.from(1, 12) {
			target := g.router(s)
			targets = append(targets, target)
			routers, taken := routeModel(s, source, target)
			for i, router := range routers {
				want[router] |= taken[i]
			}
		}
		l, used := tree(t, s, source, targets), make([]int, s.Wide*s.High)
		cores := follow(s, l, source, used)
		slices.Sort(cores)
		slices.Sort(targets)
		if !slices.Equal(l, want) || !slices.Equal(l, used) || !slices.Equal(cores, slices.Compact(targets)) {
			t.Fatalf("Tree from %d to %v on %v: %v, which leads to %v over %v, want %v", source, targets, s, l, cores, used, want)
		}
	}
}
