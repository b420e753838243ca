package house

import (
	"strconv"
	"strings"

	"facet/api"
)

// desk is what lines leave to those behind them, and the builder of all that is answered.
type desk struct {
	strings.Builder
	polytope *api.Polytope // nil, if there is none
	matroid  *api.Matroid  // nil, if there is none
}

// answer writes the line that answers this one.
func (d *desk) answer(said string, known map[string]line) {
	words := strings.Split(said, " ")
	first, behind := words[0], words[1:]
	if l, isKnown := known[first]; !isKnown || !l.takes(len(behind)) {
		d.WriteString("bad")
	} else if told, e := l.do(d, behind); e != api.OK {
		d.WriteString("error " + strconv.Itoa(int(e)))
	} else {
		d.WriteString(strings.Join(told, " "))
	}
	d.WriteByte('\n')
}

// asked tells what is found of a thing on the desk.
func asked[K, T any](thing *K, find func(K) (T, api.Errno), tellIt func(T, api.Errno) ([]string, api.Errno)) ([]string, api.Errno) {
	if thing == nil {
		return nil, api.ErrNone
	}
	return tellIt(find(*thing))
}
