package cert

import "chirograph/api"

// The kinds of extensions that are read. What is 0 is none of them.
const (
	extConstraints = iota + 1
	extUsage
	extUses
	extNames
	extBounds
	extPolicies
	extRequire
	extInhibit
	extSubjectKey
	extIssuerKey
)

// kinds has the extensions that are read, by their Oids.
func kinds() map[string]int {
	return map[string]int{
		"2.5.29.14": extSubjectKey,
		"2.5.29.15": extUsage,
		"2.5.29.17": extNames,
		"2.5.29.19": extConstraints,
		"2.5.29.30": extBounds,
		"2.5.29.32": extPolicies,
		"2.5.29.35": extIssuerKey,
		"2.5.29.36": extRequire,
		"2.5.29.37": extUses,
		"2.5.29.54": extInhibit,
	}
}

// extensions looks into none of them where there are too many.
func (r *reader) extensions() {
	r.need(len(r.left) > 0)
	r.extended = true
	if len(r.left) > api.MaxExts {
		r.many = true
		r.whatever()
	}
	for len(r.left) > 0 {
		r.seq(r.extension)
	}
}

func (r *reader) extension() {
	oid := r.oid()
	must := r.truth()
	data := r.plain(api.TagOctets)
	r.seen[oid]++
	if r.seen[oid] > 1 {
		r.twice = true
	}
	kind := r.kinds[oid]
	switch kind {
	case 0:
		if must {
			r.cert.Unknown = true
		}
		return
	case extUses:
		r.cert.EkuMust = must
	}
	r.within(data, func() { r.value(kind) })
}

func (r *reader) value(kind int) {
	switch kind {
	case extConstraints:
		r.seq(r.constraints)
	case extUsage:
		r.cert.Usage = r.flags()
	case extUses:
		r.seq(r.each(func() { r.cert.Eku = append(r.cert.Eku, r.oid()) }))
	case extNames:
		r.seq(r.each(func() { r.cert.Names = append(r.cert.Names, r.general(false)) }))
	case extBounds:
		r.seq(r.bounds)
	case extPolicies:
		r.seq(r.each(func() { r.seq(r.policy) }))
	case extRequire:
		r.seq(r.require)
	case extInhibit:
		r.cert.Inhibit = r.count(r.plain(api.TagInt))
	case extSubjectKey:
		r.cert.Ski = r.plain(api.TagOctets)
	case extIssuerKey:
		r.seq(r.issuerKey)
	}
}

func (r *reader) constraints() {
	r.cert.Ca = r.truth()
	if r.is(api.Universal, api.TagInt, false) {
		r.cert.Below = r.count(r.next().Data)
	}
}

func (r *reader) bounds() {
	r.cert.Permitted = r.bases(0)
	r.cert.Excluded = r.bases(1)
}

// bases has those in an element [tag] that may be there.
func (r *reader) bases(tag int) []api.Gen {
	if !r.is(api.Context, tag, true) {
		return nil
	}
	var l []api.Gen
	r.within(r.next().Data, r.each(func() {
		r.seq(func() { l = append(l, r.base()) })
	}))
	return l
}

// base lets one that nobody can judge by count like an extension that is not
// known.
func (r *reader) base() api.Gen {
	g := r.general(true)
	if !isJudged(g.Kind) {
		r.cert.Unknown = true
	}
	return g
}

// policy passes over what qualifies it.
func (r *reader) policy() {
	r.cert.Policies = append(r.cert.Policies, r.oid())
	if r.is(api.Universal, api.TagSeq, true) {
		r.seq(r.whatever)
	}
}

// require reads what stands in [1]-, but nobody asks for it: there are no
// policy mappings.
func (r *reader) require() {
	if r.is(api.Context, 0, false) {
		r.cert.Require = r.count(r.next().Data)
	}
	if r.is(api.Context, 1, false) {
		r.count(r.next().Data)
	}
}

func (r *reader) issuerKey() {
	found := false
	for len(r.left) > 0 {
		isKey := r.is(api.Context, 0, false)
		x := r.next()
		if isKey && !found {
			r.cert.Aki = x.Data
			found = true
		}
	}
}
