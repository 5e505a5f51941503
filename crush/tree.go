package crush

import (
	"cmp"
	"slices"

	"mooring/api"
	"mooring/mix"
	"mooring/straw"
)

// branch is the racks of a map, the hosts of a rack or the OSDs of a host: the number
// and the weight of each, by rising numbers, and what is under each of them.
type branch struct {
	each  []api.Weighed
	under []branch
}

// path is whom a descent meets on its way: of each failure domain one, by its number.
type path [api.Domains]int

// tree is a map's tree.
func tree(l []api.Osd) branch {
	sorted := slices.Clone(l)
	slices.SortFunc(sorted, func(a, b api.Osd) int {
		return cmp.Or(cmp.Compare(a.Rack, b.Rack), cmp.Compare(a.Host, b.Host), cmp.Compare(a.Id, b.Id))
	})
	return grow(sorted, api.DomainRack)
}

// grow is the branch of sorted OSDs from a domain down; under the OSDs there is nothing.
func grow(l []api.Osd, domain int) branch {
	var b branch
	if domain < api.DomainOsd {
		return b
	}
	for len(l) > 0 {
		n := together(l, domain)
		b.each = append(b.each, api.Weighed{Id: number(l[0], domain), Weight: total(l[:n])})
		b.under = append(b.under, grow(l[:n], domain-1))
		l = l[n:]
	}
	return b
}

// together is how many OSDs at the beginning of a list are in the first one's domain.
func together(l []api.Osd, domain int) int {
	other := slices.IndexFunc(l, func(o api.Osd) bool { return number(o, domain) != number(l[0], domain) })
	if other < 0 {
		return len(l)
	}
	return other
}

// descend goes down from the racks to an OSD; false: it finds nobody.
func (b branch) descend(x, r uint32) (path, bool) {
	var p path
	for domain := api.DomainRack; domain >= api.DomainOsd; domain-- {
		// Racks, hosts and OSDs are told apart by 1, 2 and 3, so that a host that has its
		// rack's number does not draw the same straw as that.
		at := straw.Choose(b.each, mix.Hash2(x, uint32(api.Domains-domain)), r)
		if at < 0 {
			return path{}, false
		}
		p[domain] = b.each[at].Id
		b = b.under[at]
	}
	return p, true
}

// find is whom a place has; false: nobody. Who has a place ahead is in a domain that is
// taken, so an OSD need not be looked for apart.
func (b branch) find(rule api.Rule, x uint32, place int, taken []int) (path, bool) {
	for try := range api.Tries {
		p, ok := b.descend(x, uint32(place+try*rule.Want))
		if ok && !slices.Contains(taken, p[rule.Domain]) {
			return p, true
		}
	}
	return path{}, false
}

// number is which domain of a kind an OSD is in.
func number(o api.Osd, domain int) int {
	switch domain {
	case api.DomainRack:
		return o.Rack
	case api.DomainHost:
		return o.Host
	}
	return o.Id
}

// weight is what an OSD weighs.
func weight(o api.Osd) int {
	if !o.In {
		return 0
	}
	return o.Weight
}

// total is what OSDs weigh together: at most 2^30, so that whoever has weight draws.
func total(l []api.Osd) int {
	sum := 0
	for _, o := range l {
		sum += weight(o)
	}
	return sum
}
