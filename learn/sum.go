package learn

// sumsKept returns the lists of synapses that keep a sum together: those to one neuron, with one rule that has Sum.
func (l *Learner) sumsKept() [][]int {
	type key struct{ rule, neuron int }
	var groups [][]int
	at := map[key]int{}
	for i := range l.marks() {
		k := key{l.plastic[i], l.first.Synapses[i].To}
		if !l.rules[k.rule].Sum {
			continue
		}
		if _, met := at[k]; !met {
			at[k] = len(groups)
			groups = append(groups, nil)
		}
		groups[at[k]] = append(groups[at[k]], i)
	}
	return groups
}

// keepSum changes the weights of a group by turns, until their sum is what it was at first.
func (l *Learner) keepSum(group []int) {
	left, sign, bound := 0, 1, l.rules[l.plastic[group[0]]].Hi
	for _, i := range group {
		left += l.first.Synapses[i].Weight - l.list[i].Weight
	}
	if left < 0 {
		left, sign, bound = -left, -1, l.rules[l.plastic[group[0]]].Lo
	}
	// goRound gives each synapse so many turns, and returns how many are not at the bound behind them.
	goRound := func(turns int) int {
		open := 0
		for _, i := range group {
			m := &l.list[i]
			by := min(turns, sign*(bound-m.Weight), left)
			m.Weight += sign * by
			left -= by
			if m.Weight != bound {
				open++
			}
		}
		return open
	}
	// As many turns as all open synapses can do with what is left come to the same one by one, or at once. Some are
	// always open while something is left, as at first all weights were within the bounds.
	for open := goRound(0); left > 0; {
		open = goRound(max(left/open, 1))
	}
}
