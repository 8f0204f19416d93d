package merge

// The sources, by their numbers, play games, and the one that is ahead wins. Game 1 is the last one; game n is played by the winners of 2n and 2n + 1, where a number that is not below the number of sources is no game, but the source of that number less theirs. In places stands who has lost game n, at n, and who has won the last one, at 0.

// winner tells whose thing comes first.
func (m *Merge[T]) winner() int {
	return m.places[0]
}

func (m *Merge[T]) playAll() {
	m.places[0] = m.play(1)
}

// play plays a game and all that lead to it, and tells who has won it.
func (m *Merge[T]) play(game int) int {
	if game >= len(m.sources) {
		return game - len(m.sources)
	}
	return m.settle(game, m.play(2*game), m.play(2*game+1))
}

// replay plays the winner's games anew, and no others: the thing of nobody else has changed.
func (m *Merge[T]) replay() {
	winner := m.winner()
	for game := (winner + len(m.sources)) / 2; game > 0; game /= 2 {
		winner = m.settle(game, winner, m.places[game])
	}
	m.places[0] = winner
}

// settle notes the loser of a game, and tells the winner.
func (m *Merge[T]) settle(game, a, b int) int {
	if m.isAhead(b, a) {
		a, b = b, a
	}
	m.places[game] = b
	return a
}

// isAhead tells whether a source's thing is to be told ahead of another one's: of alike things the lower source's.
func (m *Merge[T]) isAhead(a, b int) bool {
	one, other := &m.sources[a], &m.sources[b]
	if !one.some || !other.some {
		return one.some
	}
	order := m.compare(one.thing, other.thing)
	return order < 0 || order == 0 && a < b
}
