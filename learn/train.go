package learn

import (
	"ganglion/api"
	"ganglion/net"
)

// Prize is a reward for a rule in a tick.
type Prize struct {
	Tick  int
	Rule  int
	Value int
}

// Train returns the spikes of some ticks, and the network behind them.
func Train(n api.Net, rules []Rule, plastic []int, inputs []api.Event, prizes []Prize, ticks int) ([]api.Event, api.Net, api.Errno) {
	if e := checkTrain(n, rules, plastic, inputs, prizes, ticks); e != api.OK {
		return nil, api.Net{}, e
	}
	l := begin(n, rules, plastic)
	var spikes []api.Event
	for now := range ticks {
		var ids, rewards []int
		ids, inputs = takeInputs(inputs, now)
		rewards, prizes = takePrizes(prizes, now, len(rules))
		for _, i := range l.tick(ids, rewards) {
			spikes = append(spikes, api.Event{Tick: now, Id: i})
		}
		if len(spikes) > api.MaxEvents {
			return nil, api.Net{}, api.ErrLong
		}
	}
	after, e := l.Net()
	return spikes, after, e
}

// checkTrain checks the arguments of Train.
func checkTrain(n api.Net, rules []Rule, plastic []int, inputs []api.Event, prizes []Prize, ticks int) api.Errno {
	if e := Check(n, rules, plastic); e != api.OK {
		return e
	}
	if !among(ticks, 0, api.MaxTicks) {
		return api.ErrRange
	}
	// A run of no ticks only examines the events.
	if _, e := net.Run(n, inputs, 0); e != api.OK {
		return e
	}
	if len(prizes) > api.MaxEvents {
		return api.ErrMany
	}
	for i, x := range prizes {
		if !among(x.Tick, 0, api.MaxTicks-1) || !among(x.Rule, 0, len(rules)-1) || !isReward(x.Value) {
			return api.ErrRange
		}
		if i > 0 && !before(prizes[i-1], x) {
			return api.ErrArg
		}
	}
	return api.OK
}

// before reports whether x comes before y, by Tick and then by Rule.
func before(x, y Prize) bool {
	return x.Tick < y.Tick || x.Tick == y.Tick && x.Rule < y.Rule
}

// takeInputs returns the Ids of the first events, as far as they are in this tick, and the other events.
func takeInputs(events []api.Event, tick int) (ids []int, others []api.Event) {
	for len(events) > 0 && events[0].Tick == tick {
		ids = append(ids, events[0].Id)
		events = events[1:]
	}
	return ids, events
}

// takePrizes returns the reward of each of so many rules by the first prizes, as far as they are in this tick, and the
// other prizes.
func takePrizes(prizes []Prize, tick, rules int) (rewards []int, others []Prize) {
	rewards = make([]int, rules)
	for len(prizes) > 0 && prizes[0].Tick == tick {
		rewards[prizes[0].Rule] = prizes[0].Value
		prizes = prizes[1:]
	}
	return rewards, prizes
}
