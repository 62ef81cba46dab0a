"""Water: what can be told exactly of places, lines and hulls."""
