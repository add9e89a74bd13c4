package shape

import "etchhouse/api"

// CheckTurn validates a turn.
func CheckTurn(t api.Turn) api.Fault {
	if t.Quarters < 0 || t.Quarters > 3 || !pointInRange(t.At) {
		return api.ErrRange
	}
	return api.OK
}

// Turned returns where a point comes.
func Turned(p api.Point, t api.Turn) (api.Point, api.Fault) {
	if f := CheckTurn(t); f != api.OK {
		return api.Point{}, f
	}
	if !pointInRange(p) || !pointInRange(turn(p, t)) {
		return api.Point{}, api.ErrRange
	}
	return turn(p, t), api.OK
}

// turn turns a point without a look at its range.
func turn(p api.Point, t api.Turn) api.Point {
	if t.Flip {
		p.X = -p.X
	}
	for range t.Quarters {
		p.X, p.Y = -p.Y, p.X
	}
	return api.Point{X: p.X + t.At.X, Y: p.Y + t.At.Y}
}

// TurnedRegion returns a region whose squares are turned as areas.
func TurnedRegion(r []api.Rect, t api.Turn) ([]api.Rect, api.Fault) {
	if f := CheckRegion(r); f != api.OK {
		return nil, f
	}
	if f := CheckTurn(t); f != api.OK {
		return nil, f
	}
	turned := make([]api.Rect, 0, len(r))
	for _, x := range r {
		y := turnRect(x, t)
		if checkRect(y) != api.OK {
			return nil, api.ErrRange
		}
		turned = append(turned, y)
	}
	return combine(turned, nil, inFirst)
}

func turnRect(r api.Rect, t api.Turn) api.Rect {
	p := turn(corner(r), t)
	q := turn(api.Point{X: r.X1, Y: r.Y1}, t)
	return api.Rect{X0: min(p.X, q.X), Y0: min(p.Y, q.Y), X1: max(p.X, q.X), Y1: max(p.Y, q.Y)}
}

// Then returns the turn that does t and then u.
func Then(t, u api.Turn) (api.Turn, api.Fault) {
	if f := CheckTurn(t); f != api.OK {
		return api.Turn{}, f
	}
	if f := CheckTurn(u); f != api.OK {
		return api.Turn{}, f
	}
	at := turn(t.At, u)
	if !pointInRange(at) {
		return api.Turn{}, api.ErrRange
	}
	quarters := u.Quarters + t.Quarters
	if u.Flip { // a mirror makes the quarters before it go the other way
		quarters = u.Quarters - t.Quarters + 4
	}
	return api.Turn{Flip: t.Flip != u.Flip, Quarters: quarters % 4, At: at}, api.OK
}

// Back returns the turn that undoes t.
func Back(t api.Turn) (api.Turn, api.Fault) {
	if f := CheckTurn(t); f != api.OK {
		return api.Turn{}, f
	}
	back := api.Turn{Flip: t.Flip, Quarters: t.Quarters}
	if !t.Flip { // with a mirror, the same quarters undo themselves
		back.Quarters = (4 - t.Quarters) % 4
	}
	p := turn(t.At, back)
	back.At = api.Point{X: -p.X, Y: -p.Y}
	return back, api.OK
}
