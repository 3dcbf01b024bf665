package raft

import "parapet/api"

// timer is a node's only sense of time.
type timer struct {
	left  int // Ticks
	draws []int
	drawn int // how many of the draws are used, since the first one was last
	beats int // Ticks since a leader's last word
}

// restart has a node wait anew.
func (t *timer) restart() { t.left = api.Base + t.draw() }

// draw is the next draw, from 0 on and below Spread.
func (t *timer) draw() int {
	if len(t.draws) == 0 {
		return 0
	}
	d := t.draws[t.drawn] % api.Spread
	t.drawn = (t.drawn + 1) % len(t.draws)
	if d < 0 {
		d += api.Spread
	}
	return d
}

// runsOut tells whether a node has waited long enough, one Tick later.
func (t *timer) runsOut() bool {
	t.left--
	return t.left == 0
}

// isBeat tells whether a leader sends, one Tick later.
func (t *timer) isBeat() bool {
	t.beats = (t.beats + 1) % api.Beat
	return t.beats == 0
}
