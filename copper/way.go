package copper

import (
	"slices"

	"etchhouse/api"
)

// Way returns how two pins are connected, and whether they are.
func Way(a api.Art, from, to api.Pin) ([]api.Hop, bool, api.Fault) {
	way, _, f := found(a, from, to)
	return way, len(way) > 0, f
}

// Bridges returns what the connection of two pins hangs on.
func Bridges(a api.Art, from, to api.Pin) ([]api.Hop, api.Fault) {
	way, l, f := found(a, from, to)
	if f != api.OK {
		return nil, f
	}
	if len(way) == 0 {
		return nil, api.ErrNone
	}
	return l.bridges(way), api.OK
}

// found returns the way from one pin to another one, which is empty if there is none, and what touches what.
func found(a api.Art, from, to api.Pin) ([]api.Hop, links, api.Fault) {
	b, f := drilled(a)
	if f != api.OK {
		return nil, nil, f
	}
	first, okFirst := b.land(from)
	last, okLast := b.land(to)
	if !okFirst || !okLast {
		return nil, nil, api.ErrNone
	}
	start, okStart := b.holder(first)
	end, okEnd := b.holder(last)
	if !okStart || !okEnd {
		return nil, nil, api.OK
	}
	l := b.links()
	return l.way(start, end), l, api.OK
}

func (b *board) land(p api.Pin) (api.Land, bool) {
	for _, l := range b.lands {
		if pinOf(l) == p {
			return l, true
		}
	}
	return api.Land{}, false
}

// way returns the least one of the shortest ways from one hop to another one; none, if there is none.
func (l links) way(from, to api.Hop) []api.Hop {
	far := l.distances(to)
	if _, ok := far[from]; !ok {
		return nil
	}
	way := []api.Hop{from}
	for at := from; at != to; {
		// What one hop touches is all pieces or all bores, in order: so the first one that is nearer is the least one.
		nearer := slices.IndexFunc(l[at], func(next api.Hop) bool { return far[next] < far[at] })
		at = l[at][nearer]
		way = append(way, at)
	}
	return way
}

// distances counts the steps to a hop from each one that is connected with it.
func (l links) distances(to api.Hop) map[api.Hop]int {
	far := map[api.Hop]int{to: 0}
	l.spread(to, func(at, next api.Hop) bool {
		if _, known := far[next]; known {
			return false
		}
		far[next] = far[at] + 1
		return true
	})
	return far
}

// bridges returns the hops of a way past which no other one leads: from none of those ahead of such a hop does anything beside the way lead to one behind it.
func (l links) bridges(way []api.Hop) []api.Hop {
	place := map[api.Hop]int{}
	for i, h := range way {
		place[h] = i
	}
	var out []api.Hop
	farthest, seen := 0, map[api.Hop]bool{}
	for i, h := range way {
		if farthest <= i {
			out = append(out, h)
		}
		l.spread(h, func(_, next api.Hop) bool {
			if at, onWay := place[next]; onWay {
				farthest = max(farthest, at)
				return false
			}
			isNew := !seen[next]
			seen[next] = true
			return isNew
		})
	}
	return out
}
