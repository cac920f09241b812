package lang

import (
	"strconv"
	"strings"

	"ganglion/api"
	"ganglion/net"
)

// Write returns a program for a network.
func Write(n api.Net) (string, api.Errno) {
	if e := net.Check(n); e != api.OK {
		return "", e
	}
	kinds, runs := kindsOf(n.Neurons), runsOf(n.Neurons)
	groups := len(runs)
	if n.Inputs > 0 {
		groups++
	}
	if len(kinds) > MaxKinds || groups > MaxGroups || len(kinds)+groups+len(n.Synapses) > MaxSteps {
		return "", api.ErrMany
	}
	var b strings.Builder
	writeNeurons(&b, kinds, runs)
	if n.Inputs > 0 {
		writeLine(&b, "input", "x", strconv.Itoa(n.Inputs))
	}
	writeWires(&b, n, runs)
	if b.Len() > api.MaxText {
		return "", api.ErrLong
	}
	return b.String(), api.OK
}

// kindsOf returns the different kinds of neurons, in the order in which they come first.
func kindsOf(neurons []api.Params) []api.Params {
	var l []api.Params
	had := map[api.Params]bool{}
	for _, p := range neurons {
		if !had[p] {
			had[p] = true
			l = append(l, p)
		}
	}
	return l
}

// run is neurons of one kind that follow one another.
type run struct {
	kind  api.Params
	first int
	count int
}

// runsOf returns the runs of neurons, as long as possible.
func runsOf(neurons []api.Params) []run {
	var l []run
	for i, p := range neurons {
		if i == 0 || p != neurons[i-1] {
			l = append(l, run{kind: p, first: i})
		}
		l[len(l)-1].count++
	}
	return l
}

// writeNeurons writes the kinds of neurons, and the populations.
func writeNeurons(b *strings.Builder, kinds []api.Params, runs []run) {
	names := map[api.Params]string{}
	for i, p := range kinds {
		names[p] = "k" + strconv.Itoa(i)
		writeKind(b, names[p], p)
	}
	for i, r := range runs {
		writeLine(b, "pop", popName(i), strconv.Itoa(r.count), names[r.kind])
	}
}

func popName(i int) string { return "p" + strconv.Itoa(i) }

func writeKind(b *strings.Builder, name string, p api.Params) {
	words := []string{"neuron", name}
	switch p.LeakKind {
	case api.LeakLine:
		words = append(words, "line", strconv.Itoa(p.Leak))
	case api.LeakShare:
		words = append(words, "share", strconv.Itoa(p.Leak))
	default:
		words = append(words, "none")
	}
	words = append(words, "bias", strconv.Itoa(p.Bias), "thresh", strconv.Itoa(p.Thresh))
	if p.ResetKind == api.ResetTo {
		words = append(words, "to", strconv.Itoa(p.Reset))
	} else {
		words = append(words, "sub")
	}
	writeLine(b, append(words, "floor", strconv.Itoa(p.Floor), "rest", strconv.Itoa(p.Rest))...)
}

// place is where a neuron or an input is found in a program: the name of its group, and its number there.
type place struct{ group, number string }

// writeWires writes the synapses.
func writeWires(b *strings.Builder, n api.Net, runs []run) {
	var places []place
	for i, r := range runs {
		for k := range r.count {
			places = append(places, place{popName(i), strconv.Itoa(k)})
		}
	}
	for _, s := range n.Synapses {
		from := place{"x", strconv.Itoa(-1 - s.From)}
		if s.From >= 0 {
			from = places[s.From]
		}
		to := places[s.To]
		writeLine(b, "wire", from.group, from.number, to.group, to.number, "weight", strconv.Itoa(s.Weight), "delay", strconv.Itoa(s.Delay))
	}
}
