package guard

import "rejoinder/api"

// count tells whether there may be so many propositions.
func count(n int) bool { return 0 <= n && n <= api.MaxProps }

// isProp tells whether a number is that of a proposition.
func isProp(p int) bool { return 0 <= p && p < api.MaxProps }

// opposite tells a state's reference, and of a reference below 0 the state: each is -1 less the other, and none is too great for that.
func opposite(n int) int { return -1 - n }

// side tells the reference to which a letter goes on from a node.
func side(x api.Node, l api.Letter) int {
	if l>>x.P&1 == 1 {
		return x.Hi
	}
	return x.Lo
}
