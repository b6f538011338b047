package linear

import (
	"slices"

	"marshalling/api"
	"marshalling/history"
	"marshalling/omap"
)

// maxTried is how many operations a row may have whose orders are all tried.
const maxTried = 7

// call is an operation of a row whose place in the map's row is looked for.
type call struct {
	id     int
	op     api.Op
	ended  bool
	answer api.Answer // what it must be answered, if it is ended
	ahead  set        // those that it may not be done ahead of
}

// set has a bit for each call that is in it, by its place.
type set uint8

func only(k int) set { return 1 << k }

// has tells whether all of t are in s.
func (s set) has(t set) bool { return s&t == t }

// Some tells whether all ended and some pending operations can be done in any row that keeps to what is ahead of what, so that each ended one has its answer; false, if l is not right, or has more than 7 operations.
func Some(start []api.Pair, l []api.Event) bool {
	if _, e := history.Check(l); e != api.OK {
		return false
	}
	ids := begun(l)
	if len(ids) > maxTried {
		return false
	}
	calls := callsOf(l, ids)
	need := ended(calls)
	var try func(pairs []api.Pair, done set) bool
	try = func(pairs []api.Pair, done set) bool {
		if done.has(need) {
			return true
		}
		for k, c := range calls {
			if done.has(only(k)) || !done.has(c.ahead) {
				continue
			}
			m := omap.New(pairs)
			a := m.Do(c.op)
			if (!c.ended || a == c.answer) && try(m.All(), done|only(k)) {
				return true
			}
		}
		return false
	}
	return try(near(start, calls), 0)
}

// begun are the Ids of a right row, in the row in which they begin.
func begun(l []api.Event) []int {
	var ids []int
	for _, e := range l {
		if e.Kind == api.Begun {
			ids = append(ids, e.Id)
		}
	}
	return ids
}

// callsOf are the operations of these Ids. What had no room is left out: it does nothing wherever it stands, and what is ahead of it is ahead of all that it is ahead of.
func callsOf(l []api.Event, ids []int) []call {
	var calls []call
	for _, id := range ids {
		op, a, state := history.State(l, id)
		c := call{id: id, op: op, ended: state == api.Ended, answer: a}
		if !c.ended || !hadNoRoom(a) {
			calls = append(calls, c)
		}
	}
	for k := range calls {
		for j := range calls {
			if history.Ahead(l, calls[j].id, calls[k].id) {
				calls[k].ahead |= only(j)
			}
		}
	}
	return calls
}

// ended are the calls that no row may leave out.
func ended(calls []call) set {
	var s set
	for k, c := range calls {
		if c.ended {
			s |= only(k)
		}
	}
	return s
}

// near are the pairs of start that the calls may tell or change: those whose keys they name, and for each Next the first one whose key none names, as that one stays. So each try goes over few pairs, however many there are.
func near(start []api.Pair, calls []call) []api.Pair {
	m, keys := omap.New(start), named(calls)
	pairs := slices.DeleteFunc(m.All(), func(p api.Pair) bool { return !slices.Contains(keys, p.Key) })
	for _, c := range calls {
		if c.op.Kind != api.Next {
			continue
		}
		a := m.Do(c.op)
		for a.Found && slices.Contains(keys, a.Key) {
			a = m.Do(api.Op{Kind: api.Next, Key: a.Key, After: true})
		}
		if a.Found {
			pairs = append(pairs, api.Pair{Key: a.Key, Value: a.Value})
		}
	}
	return pairs
}

// named are the keys that the calls tell of or change by their names; what is refused does neither.
func named(calls []call) []string {
	var keys []string
	for _, c := range calls {
		switch {
		case omap.Refused(c.op) != api.OK || c.op.Kind == api.Next:
		case c.op.Kind == api.Batch:
			for _, w := range c.op.Writes {
				keys = append(keys, w.Key)
			}
		default:
			keys = append(keys, c.op.Key)
		}
	}
	return keys
}
