package show

import "waterwheel/api"

// The strengths with which expressions hold together, the weakest one first.
const (
	compared = iota
	added    // or subtracted
	multiplied
	enclosed // in brackets of their own
)

// A link is what an expression does with its kids: its kind, and that of its
// operator.
type link struct {
	kind, op int
}

// strength returns how strongly an expression with this link holds together.
func (l link) strength() int {
	switch l.kind {
	case api.ExFilter:
		return compared
	case api.ExJoin, api.ExScale:
		if l.op == api.OpMul {
			return multiplied
		}
		return added
	}
	return enclosed
}

// strengthOf returns how strongly e holds together.
func strengthOf(e api.Expr) int {
	return link{e.Kind, e.Op}.strength()
}
